/- The program's Proves, of any matching. -/
import Derived.Test.YtncmfjncdhhjoaaWPrg
import Derived.Deep.RegionHeld3
namespace Go.Proofs.Ytncmfjncdhhjoaa
open Go.RowKit

set_option maxHeartbeats 8000000 in
set_option maxRecDepth 100000 in
theorem mproves_b (cA c0 c1 c2 n m L0 L1 L2 : Nat) (A A0 A1 A2 : Option Addr) (ls : List (List Int)) (l us vs : List Int) (cost : Int) (w : World) (T : Tab w.heap.size w A ls) (h0 : Ints w A0 l) (h1 : Ints w A1 us) (h2 : Ints w A2 vs)
    (G : Good n m ls) (d1 : 1 ≤ n) (d2 : n ≤ m) (d3 : m ≤ 64) (hchk : chkT ls = true) (hL0 : L0 = l.length) (hL1 : L1 = us.length) (hL2 : L2 = vs.length) (hI : ¬ IsAsg n m (cst ls) l) :
    Calls Try.prog 33 #[.slice A n cA, .agg #[.slice A0 L0 c0, .slice A1 L1 c1, .slice A2 L2 c2, .int .i64 cost]] w fun e w' => Below w.heap.size w w' ∧ e = .returned (.tuple #[.bool false, .int .i64 2]) := by
  obtain ⟨O, hO⟩ : ∃ O, O = Obj.cells #[.slice A0 L0 c0, .slice A1 L1 c1, .slice A2 L2 c2, .int .i64 cost] 35 := ⟨_, rfl⟩
  have hbx : Blk 35 (w.alloc O) w.heap.size [.slice A0 L0 c0, .slice A1 L1 c1, .slice A2 L2 c2, .int .i64 cost] := by rw [hO]; exact Blk.new w 35 _
  have hlW := below_new w O
  have T' := T.keep hlW
  have hck := check_any w.heap.size A cA n ls (w.alloc O) T' G.rows.symm
  have hce : ckE ls = 0 := by unfold ckE; rw [hchk]; rfl
  rw [hce] at hck
  have h0' := Vals.keep h0 hlW
  have h1' := Vals.keep h1 hlW
  have h2' := Vals.keep h2 hlW
  have hia : ∀ W, Below (w.alloc O).heap.size (w.alloc O) W → Calls Try.prog 48 #[.slice A n cA, .slice A0 L0 c0] W fun e w' => Below W.heap.size W w' ∧ e = .returned (.bool false) := fun W hW =>
    (isAsg_any w.heap.size n m cA c0 L0 A A0 ls l W (T'.keep (hW.mono hlW.size)) (Nat.le_trans hlW.size hW.size) G (Vals.keep h0' hW) hL0 d1 d2 d3).mono fun e w' h => ⟨h.1, by
      rcases h.2 with ⟨k, h⟩ | ⟨k, h⟩
      · exact absurd k hI
      · exact h⟩
  obtain ⟨g, off, Ai, ci, rfl, hg, hr0, -⟩ := G.at_ T' (i := 0) (by omega)
  have hr0' : (w.alloc O).cell? ⟨g, off, none⟩ = some (.slice Ai m ci) := hr0
  have hKP : ∀ W, Below (w.alloc O).heap.size (w.alloc O) W → W.cell? ⟨w.heap.size, 0, none⟩ = some (.slice A0 L0 c0) ∧ W.cell? ⟨w.heap.size, 1, none⟩ = some (.slice A1 L1 c1) ∧ W.cell? ⟨w.heap.size, 2, none⟩ = some (.slice A2 L2 c2) ∧ W.cell? ⟨w.heap.size, 3, none⟩ = some (.int .i64 cost) ∧ W.cell? ⟨g, off, none⟩ = some (.slice Ai m ci) := fun W h =>
    ⟨(hbx.keep h).cell 0, (hbx.keep h).cell 1, (hbx.keep h).cell 2, (hbx.keep h).cell 3, (h.cell (p := ⟨g, off, none⟩) (Nat.lt_of_lt_of_le hg hlW.size)).trans hr0'⟩
  obtain ⟨x0, x1, x2, x3, -⟩ := hKP _ (Below.refl _ _)
  have HIA := Lib.hid hia
  have HCK := Lib.hid hck
  have HKP := Lib.hid hKP
  have hnI : (0 : Int) < (n : Int) := by omega
  have hnN : 0 < n := by omega
  clear hbx h0 h1 h2 T T' hck hce hL0 hL1 hL2 hr0 hia G hKP hchk h0' h1' h2' hI
  subst hO
  go_enter Try.func33, Try.ntmps33
  go_wp2_with (go_at_call 25; refine (HCK.out).mono ?_; rintro e w1 ⟨rfl, rfl⟩)
  generalize w.alloc (Obj.cells #[.slice A0 L0 c0, .slice A1 L1 c1, .slice A2 L2 c2, .int .i64 cost] 35) = W at *
  have hWd : Below W.heap.size W W.drew := (Below.refl W.heap.size W).drew
  refine wp_region_held_drew (S := (fun w' => w'.cell? ⟨w.heap.size, 0, none⟩ = some (.slice A0 L0 c0) ∧ w'.cell? ⟨w.heap.size, 1, none⟩ = some (.slice A1 L1 c1) ∧ w'.cell? ⟨w.heap.size, 2, none⟩ = some (.slice A2 L2 c2) ∧ w'.cell? ⟨g, off, none⟩ = some (.slice Ai m ci))) (by kernel_rfl) ?_ (fun hHeld => ?_)
  · (try dsimp only); exact ⟨x0, x1, x2, hr0'⟩
  refine wpAnyH_take (i := 0) (oi := { dst := some 9, op := Op.move (Operand.tmp 0), type := 22, pos := "proof.go:13", after := #[], guard := none }) (v := ?vb1) rfl (by kernel_rfl) (by kernel_rfl) (by kernel_rfl) (fun _ _ _ h => h) (Or.inl ⟨by rfl, ?yb1⟩) (by assumption) ?rb1
  case yb1 => (intro w hSw; (try dsimp only at hSw); go_simp; (try with_reducible rfl))
  try simp only [Act.put, List.setIfInBounds_toArray, List.set_cons_zero, List.set_cons_succ]
  refine wpAnyH_take (i := 1) (oi := { dst := some 10, op := Op.fieldAddr 35 (Operand.tmp 3) 0, type := 0, pos := "proof.go:13", after := #[], guard := none }) (v := ?vb2) rfl (by kernel_rfl) (by kernel_rfl) (by kernel_rfl) (fun _ _ _ h => h) (Or.inl ⟨by rfl, ?yb2⟩) (by assumption) ?rb2
  case yb2 => (intro w hSw; (try dsimp only at hSw); go_simp; (try with_reducible rfl))
  try simp only [Act.put, List.setIfInBounds_toArray, List.set_cons_zero, List.set_cons_succ]
  refine wpAnyH_take (i := 2) (oi := { dst := some 11, op := Op.load 23 (Operand.tmp 10), type := 23, pos := "proof.go:13", after := #[{ on := 1, ground := Ground.data }], guard := none }) (v := ?vb3) rfl (by kernel_rfl) (by kernel_rfl) (by kernel_rfl) (fun _ _ _ h => h) (Or.inl ⟨by rfl, ?yb3⟩) (by assumption) ?rb3
  case yb3 => (intro w hSw; (try dsimp only at hSw); go_simp; (try with_reducible rfl))
  try simp only [Act.put, List.setIfInBounds_toArray, List.set_cons_zero, List.set_cons_succ]
  refine wpAnyH_ready (rs := [3]) (by kernel_rfl) (by simp) ?_
  refine AllReadyH.cons (o := { dst := some 12, op := Op.call { callee := Callee.value (Operand.func 48), args := #[Operand.tmp 9, Operand.tmp 11], argTypes := #[22, 23] }, type := 4, pos := "proof.go:13", after := #[{ on := 0, ground := Ground.data }, { on := 2, ground := Ground.data }], guard := none }) rfl (fun K hK => ?_) AllReadyH.nil
  go_simp; go_wp2_with (go_at_call 48; (with_reducible refine (HIA.out _ hWd).mono ?_); rintro e w5 ⟨hl5, rfl⟩; have hl5' := hWd.trans hl5; obtain ⟨k0, k1, k2, k3, k4⟩ := HKP.out w5 hl5')
  refine hK.out _ _ ?_ (fun hHeld => ?_)
  · (try dsimp only); exact ⟨k0, k1, k2, k4⟩
  clear hK K
  refine wpAnyH_take (i := 4) (oi := { dst := some 13, op := Op.unOp UnOp.not 4 (Operand.tmp 12), type := 4, pos := "proof.go:13", after := #[{ on := 3, ground := Ground.data }], guard := none }) (v := ?vb5) rfl (by kernel_rfl) (by kernel_rfl) (by kernel_rfl) (fun _ _ _ h => h) (Or.inl ⟨by rfl, ?yb5⟩) (by assumption) ?rb5
  case yb5 => (intro w hSw; (try dsimp only at hSw); go_simp; (try with_reducible rfl))
  try simp only [Act.put, List.setIfInBounds_toArray, List.set_cons_zero, List.set_cons_succ]
  refine wpAnyH_take (i := 5) (oi := { dst := some 14, op := Op.move (Operand.tmp 13), type := 4, pos := "proof.go:13", after := #[{ on := 4, ground := Ground.data }, { on := 3, ground := Ground.chain }], guard := none }) (v := ?vb6) rfl (by kernel_rfl) (by kernel_rfl) (by kernel_rfl) (fun _ _ _ h => h) (Or.inl ⟨by rfl, ?yb6⟩) (by assumption) ?rb6
  case yb6 => (intro w hSw; (try dsimp only at hSw); go_simp; (try with_reducible rfl))
  try simp only [Act.put, List.setIfInBounds_toArray, List.set_cons_zero, List.set_cons_succ]
  refine wpAnyH_take (i := 6) (oi := { dst := some 15, op := Op.fieldAddr 35 (Operand.tmp 3) 1, type := 0, pos := "proof.go:13", after := #[{ on := 5, ground := Ground.guard }], guard := some (5, false) }) (v := undef) rfl (by kernel_rfl) (by kernel_rfl) (by kernel_rfl) (fun _ _ _ h => h) (Or.inr ⟨by rfl, rfl⟩) (by assumption) ?_
  try simp only [Act.put, List.setIfInBounds_toArray, List.set_cons_zero, List.set_cons_succ]
  refine wpAnyH_take (i := 7) (oi := { dst := some 16, op := Op.load 23 (Operand.tmp 15), type := 23, pos := "proof.go:13", after := #[{ on := 6, ground := Ground.data }, { on := 5, ground := Ground.guard }], guard := some (5, false) }) (v := undef) rfl (by kernel_rfl) (by kernel_rfl) (by kernel_rfl) (fun _ _ _ h => h) (Or.inr ⟨by rfl, rfl⟩) (by assumption) ?_
  try simp only [Act.put, List.setIfInBounds_toArray, List.set_cons_zero, List.set_cons_succ]
  refine wpAnyH_take (i := 8) (oi := { dst := some 17, op := Op.call { callee := Callee.builtin Builtin.len, args := #[Operand.tmp 16], argTypes := #[23] }, type := 3, pos := "proof.go:13", after := #[{ on := 7, ground := Ground.data }, { on := 5, ground := Ground.guard }], guard := some (5, false) }) (v := undef) rfl (by kernel_rfl) (by kernel_rfl) (by kernel_rfl) (fun _ _ _ h => h) (Or.inr ⟨by rfl, rfl⟩) (by assumption) ?_
  try simp only [Act.put, List.setIfInBounds_toArray, List.set_cons_zero, List.set_cons_succ]
  refine wpAnyH_take (i := 9) (oi := { dst := some 18, op := Op.move (Operand.tmp 0), type := 22, pos := "proof.go:13", after := #[{ on := 5, ground := Ground.guard }], guard := some (5, false) }) (v := undef) rfl (by kernel_rfl) (by kernel_rfl) (by kernel_rfl) (fun _ _ _ h => h) (Or.inr ⟨by rfl, rfl⟩) (by assumption) ?_
  try simp only [Act.put, List.setIfInBounds_toArray, List.set_cons_zero, List.set_cons_succ]
  refine wpAnyH_take (i := 10) (oi := { dst := some 19, op := Op.call { callee := Callee.builtin Builtin.len, args := #[Operand.tmp 18], argTypes := #[22] }, type := 3, pos := "proof.go:13", after := #[{ on := 9, ground := Ground.data }, { on := 5, ground := Ground.guard }], guard := some (5, false) }) (v := undef) rfl (by kernel_rfl) (by kernel_rfl) (by kernel_rfl) (fun _ _ _ h => h) (Or.inr ⟨by rfl, rfl⟩) (by assumption) ?_
  try simp only [Act.put, List.setIfInBounds_toArray, List.set_cons_zero, List.set_cons_succ]
  refine wpAnyH_take (i := 11) (oi := { dst := some 20, op := Op.binOp BinOp.neq 3 (Operand.tmp 17) (Operand.tmp 19) 3, type := 4, pos := "proof.go:13", after := #[{ on := 8, ground := Ground.data }, { on := 10, ground := Ground.data }, { on := 5, ground := Ground.guard }], guard := some (5, false) }) (v := undef) rfl (by kernel_rfl) (by kernel_rfl) (by kernel_rfl) (fun _ _ _ h => h) (Or.inr ⟨by rfl, rfl⟩) (by assumption) ?_
  try simp only [Act.put, List.setIfInBounds_toArray, List.set_cons_zero, List.set_cons_succ]
  refine wpAnyH_take (i := 12) (oi := { dst := some 21, op := Op.pick (Operand.tmp 14) (Operand.const (Value.bool true)) (Operand.tmp 20), type := 4, pos := "proof.go:13", after := #[{ on := 5, ground := Ground.data }, { on := 11, ground := Ground.data }], guard := none }) (v := ?vb13) rfl (by kernel_rfl) (by kernel_rfl) (by kernel_rfl) (fun _ _ _ h => h) (Or.inl ⟨by rfl, ?yb13⟩) (by assumption) ?rb13
  case yb13 => (intro w hSw; (try dsimp only at hSw); go_simp; (try with_reducible rfl))
  try simp only [Act.put, List.setIfInBounds_toArray, List.set_cons_zero, List.set_cons_succ]
  refine wpAnyH_take (i := 13) (oi := { dst := some 22, op := Op.move (Operand.tmp 21), type := 4, pos := "proof.go:13", after := #[{ on := 12, ground := Ground.data }, { on := 5, ground := Ground.chain }], guard := none }) (v := ?vb14) rfl (by kernel_rfl) (by kernel_rfl) (by kernel_rfl) (fun _ _ _ h => h) (Or.inl ⟨by rfl, ?yb14⟩) (by assumption) ?rb14
  case yb14 => (intro w hSw; (try dsimp only at hSw); go_simp; (try with_reducible rfl))
  try simp only [Act.put, List.setIfInBounds_toArray, List.set_cons_zero, List.set_cons_succ]
  refine wpAnyH_take (i := 14) (oi := { dst := some 23, op := Op.fieldAddr 35 (Operand.tmp 3) 2, type := 0, pos := "proof.go:13", after := #[{ on := 13, ground := Ground.guard }], guard := some (13, false) }) (v := undef) rfl (by kernel_rfl) (by kernel_rfl) (by kernel_rfl) (fun _ _ _ h => h) (Or.inr ⟨by rfl, rfl⟩) (by assumption) ?_
  try simp only [Act.put, List.setIfInBounds_toArray, List.set_cons_zero, List.set_cons_succ]
  refine wpAnyH_take (i := 15) (oi := { dst := some 24, op := Op.load 23 (Operand.tmp 23), type := 23, pos := "proof.go:13", after := #[{ on := 14, ground := Ground.data }, { on := 13, ground := Ground.guard }], guard := some (13, false) }) (v := undef) rfl (by kernel_rfl) (by kernel_rfl) (by kernel_rfl) (fun _ _ _ h => h) (Or.inr ⟨by rfl, rfl⟩) (by assumption) ?_
  try simp only [Act.put, List.setIfInBounds_toArray, List.set_cons_zero, List.set_cons_succ]
  refine wpAnyH_take (i := 16) (oi := { dst := some 25, op := Op.call { callee := Callee.builtin Builtin.len, args := #[Operand.tmp 24], argTypes := #[23] }, type := 3, pos := "proof.go:13", after := #[{ on := 15, ground := Ground.data }, { on := 13, ground := Ground.guard }], guard := some (13, false) }) (v := undef) rfl (by kernel_rfl) (by kernel_rfl) (by kernel_rfl) (fun _ _ _ h => h) (Or.inr ⟨by rfl, rfl⟩) (by assumption) ?_
  try simp only [Act.put, List.setIfInBounds_toArray, List.set_cons_zero, List.set_cons_succ]
  refine wpAnyH_take (i := 17) (oi := { dst := some 26, op := Op.move (Operand.tmp 0), type := 22, pos := "proof.go:13", after := #[{ on := 13, ground := Ground.guard }], guard := some (13, false) }) (v := undef) rfl (by kernel_rfl) (by kernel_rfl) (by kernel_rfl) (fun _ _ _ h => h) (Or.inr ⟨by rfl, rfl⟩) (by assumption) ?_
  try simp only [Act.put, List.setIfInBounds_toArray, List.set_cons_zero, List.set_cons_succ]
  refine wpAnyH_take (i := 18) (oi := { dst := some 27, op := Op.indexAddr 22 (Operand.tmp 26) (Operand.const (Value.int IntKind.i64 0)), type := 0, pos := "proof.go:13", after := #[{ on := 17, ground := Ground.data }, { on := 13, ground := Ground.guard }], guard := some (13, false) }) (v := undef) rfl (by kernel_rfl) (by kernel_rfl) (by kernel_rfl) (fun _ _ _ h => h) (Or.inr ⟨by rfl, rfl⟩) (by assumption) ?_
  try simp only [Act.put, List.setIfInBounds_toArray, List.set_cons_zero, List.set_cons_succ]
  refine wpAnyH_take (i := 19) (oi := { dst := some 28, op := Op.load 23 (Operand.tmp 27), type := 23, pos := "proof.go:13", after := #[{ on := 18, ground := Ground.data }, { on := 13, ground := Ground.guard }], guard := some (13, false) }) (v := undef) rfl (by kernel_rfl) (by kernel_rfl) (by kernel_rfl) (fun _ _ _ h => h) (Or.inr ⟨by rfl, rfl⟩) (by assumption) ?_
  try simp only [Act.put, List.setIfInBounds_toArray, List.set_cons_zero, List.set_cons_succ]
  refine wpAnyH_take (i := 20) (oi := { dst := some 29, op := Op.call { callee := Callee.builtin Builtin.len, args := #[Operand.tmp 28], argTypes := #[23] }, type := 3, pos := "proof.go:13", after := #[{ on := 19, ground := Ground.data }, { on := 13, ground := Ground.guard }], guard := some (13, false) }) (v := undef) rfl (by kernel_rfl) (by kernel_rfl) (by kernel_rfl) (fun _ _ _ h => h) (Or.inr ⟨by rfl, rfl⟩) (by assumption) ?_
  try simp only [Act.put, List.setIfInBounds_toArray, List.set_cons_zero, List.set_cons_succ]
  refine wpAnyH_take (i := 21) (oi := { dst := some 30, op := Op.binOp BinOp.neq 3 (Operand.tmp 25) (Operand.tmp 29) 3, type := 4, pos := "proof.go:13", after := #[{ on := 16, ground := Ground.data }, { on := 20, ground := Ground.data }, { on := 13, ground := Ground.guard }], guard := some (13, false) }) (v := undef) rfl (by kernel_rfl) (by kernel_rfl) (by kernel_rfl) (fun _ _ _ h => h) (Or.inr ⟨by rfl, rfl⟩) (by assumption) ?_
  try simp only [Act.put, List.setIfInBounds_toArray, List.set_cons_zero, List.set_cons_succ]
  refine wpAnyH_take (i := 22) (oi := { dst := some 31, op := Op.pick (Operand.tmp 22) (Operand.const (Value.bool true)) (Operand.tmp 30), type := 4, pos := "proof.go:13", after := #[{ on := 13, ground := Ground.data }, { on := 21, ground := Ground.data }], guard := none }) (v := ?vb23) rfl (by kernel_rfl) (by kernel_rfl) (by kernel_rfl) (fun _ _ _ h => h) (Or.inl ⟨by rfl, ?yb23⟩) (by assumption) ?rb23
  case yb23 => (intro w hSw; (try dsimp only at hSw); go_simp; (try with_reducible rfl))
  try simp only [Act.put, List.setIfInBounds_toArray, List.set_cons_zero, List.set_cons_succ]
  refine wpAnyH_done (by kernel_rfl) ?_ _
  go_wp2_with (fail)
  go_ret2
  exact ⟨hlW.trans (hl5'.mono hlW.size), rfl⟩

set_option maxHeartbeats 8000000 in
set_option maxRecDepth 100000 in
theorem mproves_c (cA c0 c1 c2 n m L0 L1 L2 : Nat) (A A0 A1 A2 : Option Addr) (ls : List (List Int)) (l us vs : List Int) (cost : Int) (w : World) (T : Tab w.heap.size w A ls) (h0 : Ints w A0 l) (h1 : Ints w A1 us) (h2 : Ints w A2 vs)
    (G : Good n m ls) (d1 : 1 ≤ n) (d2 : n ≤ m) (d3 : m ≤ 64) (hchk : chkT ls = true) (hL0 : L0 = l.length) (hL1 : L1 = us.length) (hL2 : L2 = vs.length) (hI : IsAsg n m (cst ls) l) (hx : L1 ≠ n) :
    Calls Try.prog 33 #[.slice A n cA, .agg #[.slice A0 L0 c0, .slice A1 L1 c1, .slice A2 L2 c2, .int .i64 cost]] w fun e w' => Below w.heap.size w w' ∧ e = .returned (.tuple #[.bool false, .int .i64 2]) := by
  obtain ⟨O, hO⟩ : ∃ O, O = Obj.cells #[.slice A0 L0 c0, .slice A1 L1 c1, .slice A2 L2 c2, .int .i64 cost] 35 := ⟨_, rfl⟩
  have hbx : Blk 35 (w.alloc O) w.heap.size [.slice A0 L0 c0, .slice A1 L1 c1, .slice A2 L2 c2, .int .i64 cost] := by rw [hO]; exact Blk.new w 35 _
  have hlW := below_new w O
  have T' := T.keep hlW
  have hck := check_any w.heap.size A cA n ls (w.alloc O) T' G.rows.symm
  have hce : ckE ls = 0 := by unfold ckE; rw [hchk]; rfl
  rw [hce] at hck
  have h0' := Vals.keep h0 hlW
  have h1' := Vals.keep h1 hlW
  have h2' := Vals.keep h2 hlW
  have hia : ∀ W, Below (w.alloc O).heap.size (w.alloc O) W → Calls Try.prog 48 #[.slice A n cA, .slice A0 L0 c0] W fun e w' => Below W.heap.size W w' ∧ e = .returned (.bool true) := fun W hW =>
    (isAsg_any w.heap.size n m cA c0 L0 A A0 ls l W (T'.keep (hW.mono hlW.size)) (Nat.le_trans hlW.size hW.size) G (Vals.keep h0' hW) hL0 d1 d2 d3).mono fun e w' h => ⟨h.1, by
      rcases h.2 with ⟨k, h⟩ | ⟨k, h⟩
      · exact h
      · exact absurd hI k⟩
  obtain ⟨g, off, Ai, ci, rfl, hg, hr0, -⟩ := G.at_ T' (i := 0) (by omega)
  have hr0' : (w.alloc O).cell? ⟨g, off, none⟩ = some (.slice Ai m ci) := hr0
  have hKP : ∀ W, Below (w.alloc O).heap.size (w.alloc O) W → W.cell? ⟨w.heap.size, 0, none⟩ = some (.slice A0 L0 c0) ∧ W.cell? ⟨w.heap.size, 1, none⟩ = some (.slice A1 L1 c1) ∧ W.cell? ⟨w.heap.size, 2, none⟩ = some (.slice A2 L2 c2) ∧ W.cell? ⟨w.heap.size, 3, none⟩ = some (.int .i64 cost) ∧ W.cell? ⟨g, off, none⟩ = some (.slice Ai m ci) := fun W h =>
    ⟨(hbx.keep h).cell 0, (hbx.keep h).cell 1, (hbx.keep h).cell 2, (hbx.keep h).cell 3, (h.cell (p := ⟨g, off, none⟩) (Nat.lt_of_lt_of_le hg hlW.size)).trans hr0'⟩
  obtain ⟨x0, x1, x2, x3, -⟩ := hKP _ (Below.refl _ _)
  have HIA := Lib.hid hia
  have HCK := Lib.hid hck
  have HKP := Lib.hid hKP
  have hnI : (0 : Int) < (n : Int) := by omega
  have hnN : 0 < n := by omega
  have hb1 : ((L1 : Int) != (n : Int)) = true := by simp; omega
  clear hbx h0 h1 h2 T T' hck hce hL0 hL1 hL2 hr0 hia G hKP hchk h0' h1' h2' hI hx
  subst hO
  go_enter Try.func33, Try.ntmps33
  go_wp2_with (go_at_call 25; refine (HCK.out).mono ?_; rintro e w1 ⟨rfl, rfl⟩)
  generalize w.alloc (Obj.cells #[.slice A0 L0 c0, .slice A1 L1 c1, .slice A2 L2 c2, .int .i64 cost] 35) = W at *
  have hWd : Below W.heap.size W W.drew := (Below.refl W.heap.size W).drew
  refine wp_region_held_drew (S := (fun w' => w'.cell? ⟨w.heap.size, 0, none⟩ = some (.slice A0 L0 c0) ∧ w'.cell? ⟨w.heap.size, 1, none⟩ = some (.slice A1 L1 c1) ∧ w'.cell? ⟨w.heap.size, 2, none⟩ = some (.slice A2 L2 c2) ∧ w'.cell? ⟨g, off, none⟩ = some (.slice Ai m ci))) (by kernel_rfl) ?_ (fun hHeld => ?_)
  · (try dsimp only); exact ⟨x0, x1, x2, hr0'⟩
  refine wpAnyH_take (i := 0) (oi := { dst := some 9, op := Op.move (Operand.tmp 0), type := 22, pos := "proof.go:13", after := #[], guard := none }) (v := ?vc1) rfl (by kernel_rfl) (by kernel_rfl) (by kernel_rfl) (fun _ _ _ h => h) (Or.inl ⟨by rfl, ?yc1⟩) (by assumption) ?rc1
  case yc1 => (intro w hSw; (try dsimp only at hSw); go_simp; (try with_reducible rfl))
  try simp only [Act.put, List.setIfInBounds_toArray, List.set_cons_zero, List.set_cons_succ]
  refine wpAnyH_take (i := 1) (oi := { dst := some 10, op := Op.fieldAddr 35 (Operand.tmp 3) 0, type := 0, pos := "proof.go:13", after := #[], guard := none }) (v := ?vc2) rfl (by kernel_rfl) (by kernel_rfl) (by kernel_rfl) (fun _ _ _ h => h) (Or.inl ⟨by rfl, ?yc2⟩) (by assumption) ?rc2
  case yc2 => (intro w hSw; (try dsimp only at hSw); go_simp; (try with_reducible rfl))
  try simp only [Act.put, List.setIfInBounds_toArray, List.set_cons_zero, List.set_cons_succ]
  refine wpAnyH_take (i := 2) (oi := { dst := some 11, op := Op.load 23 (Operand.tmp 10), type := 23, pos := "proof.go:13", after := #[{ on := 1, ground := Ground.data }], guard := none }) (v := ?vc3) rfl (by kernel_rfl) (by kernel_rfl) (by kernel_rfl) (fun _ _ _ h => h) (Or.inl ⟨by rfl, ?yc3⟩) (by assumption) ?rc3
  case yc3 => (intro w hSw; (try dsimp only at hSw); go_simp; (try with_reducible rfl))
  try simp only [Act.put, List.setIfInBounds_toArray, List.set_cons_zero, List.set_cons_succ]
  refine wpAnyH_ready (rs := [3]) (by kernel_rfl) (by simp) ?_
  refine AllReadyH.cons (o := { dst := some 12, op := Op.call { callee := Callee.value (Operand.func 48), args := #[Operand.tmp 9, Operand.tmp 11], argTypes := #[22, 23] }, type := 4, pos := "proof.go:13", after := #[{ on := 0, ground := Ground.data }, { on := 2, ground := Ground.data }], guard := none }) rfl (fun K hK => ?_) AllReadyH.nil
  go_simp; go_wp2_with (go_at_call 48; (with_reducible refine (HIA.out _ hWd).mono ?_); rintro e w5 ⟨hl5, rfl⟩; have hl5' := hWd.trans hl5; obtain ⟨k0, k1, k2, k3, k4⟩ := HKP.out w5 hl5')
  refine hK.out _ _ ?_ (fun hHeld => ?_)
  · (try dsimp only); exact ⟨k0, k1, k2, k4⟩
  clear hK K
  refine wpAnyH_take (i := 4) (oi := { dst := some 13, op := Op.unOp UnOp.not 4 (Operand.tmp 12), type := 4, pos := "proof.go:13", after := #[{ on := 3, ground := Ground.data }], guard := none }) (v := ?vc5) rfl (by kernel_rfl) (by kernel_rfl) (by kernel_rfl) (fun _ _ _ h => h) (Or.inl ⟨by rfl, ?yc5⟩) (by assumption) ?rc5
  case yc5 => (intro w hSw; (try dsimp only at hSw); go_simp; (try with_reducible rfl))
  try simp only [Act.put, List.setIfInBounds_toArray, List.set_cons_zero, List.set_cons_succ]
  refine wpAnyH_take (i := 5) (oi := { dst := some 14, op := Op.move (Operand.tmp 13), type := 4, pos := "proof.go:13", after := #[{ on := 4, ground := Ground.data }, { on := 3, ground := Ground.chain }], guard := none }) (v := ?vc6) rfl (by kernel_rfl) (by kernel_rfl) (by kernel_rfl) (fun _ _ _ h => h) (Or.inl ⟨by rfl, ?yc6⟩) (by assumption) ?rc6
  case yc6 => (intro w hSw; (try dsimp only at hSw); go_simp; (try with_reducible rfl))
  try simp only [Act.put, List.setIfInBounds_toArray, List.set_cons_zero, List.set_cons_succ]
  refine wpAnyH_take (i := 6) (oi := { dst := some 15, op := Op.fieldAddr 35 (Operand.tmp 3) 1, type := 0, pos := "proof.go:13", after := #[{ on := 5, ground := Ground.guard }], guard := some (5, false) }) (v := ?vc7) rfl (by kernel_rfl) (by kernel_rfl) (by kernel_rfl) (fun _ _ _ h => h) (Or.inl ⟨by rfl, ?yc7⟩) (by assumption) ?rc7
  case yc7 => (intro w hSw; (try dsimp only at hSw); go_simp; (try with_reducible rfl))
  try simp only [Act.put, List.setIfInBounds_toArray, List.set_cons_zero, List.set_cons_succ]
  refine wpAnyH_take (i := 7) (oi := { dst := some 16, op := Op.load 23 (Operand.tmp 15), type := 23, pos := "proof.go:13", after := #[{ on := 6, ground := Ground.data }, { on := 5, ground := Ground.guard }], guard := some (5, false) }) (v := ?vc8) rfl (by kernel_rfl) (by kernel_rfl) (by kernel_rfl) (fun _ _ _ h => h) (Or.inl ⟨by rfl, ?yc8⟩) (by assumption) ?rc8
  case yc8 => (intro w hSw; (try dsimp only at hSw); go_simp; (try with_reducible rfl))
  try simp only [Act.put, List.setIfInBounds_toArray, List.set_cons_zero, List.set_cons_succ]
  refine wpAnyH_take (i := 8) (oi := { dst := some 17, op := Op.call { callee := Callee.builtin Builtin.len, args := #[Operand.tmp 16], argTypes := #[23] }, type := 3, pos := "proof.go:13", after := #[{ on := 7, ground := Ground.data }, { on := 5, ground := Ground.guard }], guard := some (5, false) }) (v := ?vc9) rfl (by kernel_rfl) (by kernel_rfl) (by kernel_rfl) (fun _ _ _ h => h) (Or.inl ⟨by rfl, ?yc9⟩) (by assumption) ?rc9
  case yc9 => (intro w hSw; (try dsimp only at hSw); go_simp; (try with_reducible rfl))
  try simp only [Act.put, List.setIfInBounds_toArray, List.set_cons_zero, List.set_cons_succ]
  refine wpAnyH_take (i := 9) (oi := { dst := some 18, op := Op.move (Operand.tmp 0), type := 22, pos := "proof.go:13", after := #[{ on := 5, ground := Ground.guard }], guard := some (5, false) }) (v := ?vc10) rfl (by kernel_rfl) (by kernel_rfl) (by kernel_rfl) (fun _ _ _ h => h) (Or.inl ⟨by rfl, ?yc10⟩) (by assumption) ?rc10
  case yc10 => (intro w hSw; (try dsimp only at hSw); go_simp; (try with_reducible rfl))
  try simp only [Act.put, List.setIfInBounds_toArray, List.set_cons_zero, List.set_cons_succ]
  refine wpAnyH_take (i := 10) (oi := { dst := some 19, op := Op.call { callee := Callee.builtin Builtin.len, args := #[Operand.tmp 18], argTypes := #[22] }, type := 3, pos := "proof.go:13", after := #[{ on := 9, ground := Ground.data }, { on := 5, ground := Ground.guard }], guard := some (5, false) }) (v := ?vc11) rfl (by kernel_rfl) (by kernel_rfl) (by kernel_rfl) (fun _ _ _ h => h) (Or.inl ⟨by rfl, ?yc11⟩) (by assumption) ?rc11
  case yc11 => (intro w hSw; (try dsimp only at hSw); go_simp; (try with_reducible rfl))
  try simp only [Act.put, List.setIfInBounds_toArray, List.set_cons_zero, List.set_cons_succ]
  refine wpAnyH_take (i := 11) (oi := { dst := some 20, op := Op.binOp BinOp.neq 3 (Operand.tmp 17) (Operand.tmp 19) 3, type := 4, pos := "proof.go:13", after := #[{ on := 8, ground := Ground.data }, { on := 10, ground := Ground.data }, { on := 5, ground := Ground.guard }], guard := some (5, false) }) (v := ?vc12) rfl (by kernel_rfl) (by kernel_rfl) (by kernel_rfl) (fun _ _ _ h => h) (Or.inl ⟨by rfl, ?yc12⟩) (by assumption) ?rc12
  case yc12 => (intro w hSw; (try dsimp only at hSw); go_simp; (try with_reducible rfl))
  try simp only [Act.put, List.setIfInBounds_toArray, List.set_cons_zero, List.set_cons_succ]
  refine wpAnyH_take (i := 12) (oi := { dst := some 21, op := Op.pick (Operand.tmp 14) (Operand.const (Value.bool true)) (Operand.tmp 20), type := 4, pos := "proof.go:13", after := #[{ on := 5, ground := Ground.data }, { on := 11, ground := Ground.data }], guard := none }) (v := ?vc13) rfl (by kernel_rfl) (by kernel_rfl) (by kernel_rfl) (fun _ _ _ h => h) (Or.inl ⟨by rfl, ?yc13⟩) (by assumption) ?rc13
  case yc13 => (intro w hSw; (try dsimp only at hSw); go_simp; (try with_reducible rfl))
  try simp only [Act.put, List.setIfInBounds_toArray, List.set_cons_zero, List.set_cons_succ]
  refine wpAnyH_take (i := 13) (oi := { dst := some 22, op := Op.move (Operand.tmp 21), type := 4, pos := "proof.go:13", after := #[{ on := 12, ground := Ground.data }, { on := 5, ground := Ground.chain }], guard := none }) (v := ?vc14) rfl (by kernel_rfl) (by kernel_rfl) (by kernel_rfl) (fun _ _ _ h => h) (Or.inl ⟨by rfl, ?yc14⟩) (by assumption) ?rc14
  case yc14 => (intro w hSw; (try dsimp only at hSw); go_simp; (try with_reducible rfl))
  try simp only [Act.put, List.setIfInBounds_toArray, List.set_cons_zero, List.set_cons_succ]
  refine wpAnyH_take (i := 14) (oi := { dst := some 23, op := Op.fieldAddr 35 (Operand.tmp 3) 2, type := 0, pos := "proof.go:13", after := #[{ on := 13, ground := Ground.guard }], guard := some (13, false) }) (v := undef) rfl (by kernel_rfl) (by kernel_rfl) (by kernel_rfl) (fun _ _ _ h => h) (Or.inr ⟨by rfl, rfl⟩) (by assumption) ?_
  try simp only [Act.put, List.setIfInBounds_toArray, List.set_cons_zero, List.set_cons_succ]
  refine wpAnyH_take (i := 15) (oi := { dst := some 24, op := Op.load 23 (Operand.tmp 23), type := 23, pos := "proof.go:13", after := #[{ on := 14, ground := Ground.data }, { on := 13, ground := Ground.guard }], guard := some (13, false) }) (v := undef) rfl (by kernel_rfl) (by kernel_rfl) (by kernel_rfl) (fun _ _ _ h => h) (Or.inr ⟨by rfl, rfl⟩) (by assumption) ?_
  try simp only [Act.put, List.setIfInBounds_toArray, List.set_cons_zero, List.set_cons_succ]
  refine wpAnyH_take (i := 16) (oi := { dst := some 25, op := Op.call { callee := Callee.builtin Builtin.len, args := #[Operand.tmp 24], argTypes := #[23] }, type := 3, pos := "proof.go:13", after := #[{ on := 15, ground := Ground.data }, { on := 13, ground := Ground.guard }], guard := some (13, false) }) (v := undef) rfl (by kernel_rfl) (by kernel_rfl) (by kernel_rfl) (fun _ _ _ h => h) (Or.inr ⟨by rfl, rfl⟩) (by assumption) ?_
  try simp only [Act.put, List.setIfInBounds_toArray, List.set_cons_zero, List.set_cons_succ]
  refine wpAnyH_take (i := 17) (oi := { dst := some 26, op := Op.move (Operand.tmp 0), type := 22, pos := "proof.go:13", after := #[{ on := 13, ground := Ground.guard }], guard := some (13, false) }) (v := undef) rfl (by kernel_rfl) (by kernel_rfl) (by kernel_rfl) (fun _ _ _ h => h) (Or.inr ⟨by rfl, rfl⟩) (by assumption) ?_
  try simp only [Act.put, List.setIfInBounds_toArray, List.set_cons_zero, List.set_cons_succ]
  refine wpAnyH_take (i := 18) (oi := { dst := some 27, op := Op.indexAddr 22 (Operand.tmp 26) (Operand.const (Value.int IntKind.i64 0)), type := 0, pos := "proof.go:13", after := #[{ on := 17, ground := Ground.data }, { on := 13, ground := Ground.guard }], guard := some (13, false) }) (v := undef) rfl (by kernel_rfl) (by kernel_rfl) (by kernel_rfl) (fun _ _ _ h => h) (Or.inr ⟨by rfl, rfl⟩) (by assumption) ?_
  try simp only [Act.put, List.setIfInBounds_toArray, List.set_cons_zero, List.set_cons_succ]
  refine wpAnyH_take (i := 19) (oi := { dst := some 28, op := Op.load 23 (Operand.tmp 27), type := 23, pos := "proof.go:13", after := #[{ on := 18, ground := Ground.data }, { on := 13, ground := Ground.guard }], guard := some (13, false) }) (v := undef) rfl (by kernel_rfl) (by kernel_rfl) (by kernel_rfl) (fun _ _ _ h => h) (Or.inr ⟨by rfl, rfl⟩) (by assumption) ?_
  try simp only [Act.put, List.setIfInBounds_toArray, List.set_cons_zero, List.set_cons_succ]
  refine wpAnyH_take (i := 20) (oi := { dst := some 29, op := Op.call { callee := Callee.builtin Builtin.len, args := #[Operand.tmp 28], argTypes := #[23] }, type := 3, pos := "proof.go:13", after := #[{ on := 19, ground := Ground.data }, { on := 13, ground := Ground.guard }], guard := some (13, false) }) (v := undef) rfl (by kernel_rfl) (by kernel_rfl) (by kernel_rfl) (fun _ _ _ h => h) (Or.inr ⟨by rfl, rfl⟩) (by assumption) ?_
  try simp only [Act.put, List.setIfInBounds_toArray, List.set_cons_zero, List.set_cons_succ]
  refine wpAnyH_take (i := 21) (oi := { dst := some 30, op := Op.binOp BinOp.neq 3 (Operand.tmp 25) (Operand.tmp 29) 3, type := 4, pos := "proof.go:13", after := #[{ on := 16, ground := Ground.data }, { on := 20, ground := Ground.data }, { on := 13, ground := Ground.guard }], guard := some (13, false) }) (v := undef) rfl (by kernel_rfl) (by kernel_rfl) (by kernel_rfl) (fun _ _ _ h => h) (Or.inr ⟨by rfl, rfl⟩) (by assumption) ?_
  try simp only [Act.put, List.setIfInBounds_toArray, List.set_cons_zero, List.set_cons_succ]
  refine wpAnyH_take (i := 22) (oi := { dst := some 31, op := Op.pick (Operand.tmp 22) (Operand.const (Value.bool true)) (Operand.tmp 30), type := 4, pos := "proof.go:13", after := #[{ on := 13, ground := Ground.data }, { on := 21, ground := Ground.data }], guard := none }) (v := ?vc23) rfl (by kernel_rfl) (by kernel_rfl) (by kernel_rfl) (fun _ _ _ h => h) (Or.inl ⟨by rfl, ?yc23⟩) (by assumption) ?rc23
  case yc23 => (intro w hSw; (try dsimp only at hSw); go_simp; (try with_reducible rfl))
  try simp only [Act.put, List.setIfInBounds_toArray, List.set_cons_zero, List.set_cons_succ]
  refine wpAnyH_done (by kernel_rfl) ?_ _
  go_wp2_with (fail)
  go_ret2
  exact ⟨hlW.trans (hl5'.mono hlW.size), rfl⟩

set_option maxHeartbeats 8000000 in
set_option maxRecDepth 100000 in
theorem mproves_d (cA c0 c1 c2 n m L0 L1 L2 : Nat) (A A0 A1 A2 : Option Addr) (ls : List (List Int)) (l us vs : List Int) (cost : Int) (w : World) (T : Tab w.heap.size w A ls) (h0 : Ints w A0 l) (h1 : Ints w A1 us) (h2 : Ints w A2 vs)
    (G : Good n m ls) (d1 : 1 ≤ n) (d2 : n ≤ m) (d3 : m ≤ 64) (hchk : chkT ls = true) (hL0 : L0 = l.length) (hL1 : L1 = us.length) (hL2 : L2 = vs.length) (hI : IsAsg n m (cst ls) l) (hx : L1 = n) (hy : L2 ≠ m) :
    Calls Try.prog 33 #[.slice A n cA, .agg #[.slice A0 L0 c0, .slice A1 L1 c1, .slice A2 L2 c2, .int .i64 cost]] w fun e w' => Below w.heap.size w w' ∧ e = .returned (.tuple #[.bool false, .int .i64 2]) := by
  obtain ⟨O, hO⟩ : ∃ O, O = Obj.cells #[.slice A0 L0 c0, .slice A1 L1 c1, .slice A2 L2 c2, .int .i64 cost] 35 := ⟨_, rfl⟩
  have hbx : Blk 35 (w.alloc O) w.heap.size [.slice A0 L0 c0, .slice A1 L1 c1, .slice A2 L2 c2, .int .i64 cost] := by rw [hO]; exact Blk.new w 35 _
  have hlW := below_new w O
  have T' := T.keep hlW
  have hck := check_any w.heap.size A cA n ls (w.alloc O) T' G.rows.symm
  have hce : ckE ls = 0 := by unfold ckE; rw [hchk]; rfl
  rw [hce] at hck
  have h0' := Vals.keep h0 hlW
  have h1' := Vals.keep h1 hlW
  have h2' := Vals.keep h2 hlW
  have hia : ∀ W, Below (w.alloc O).heap.size (w.alloc O) W → Calls Try.prog 48 #[.slice A n cA, .slice A0 L0 c0] W fun e w' => Below W.heap.size W w' ∧ e = .returned (.bool true) := fun W hW =>
    (isAsg_any w.heap.size n m cA c0 L0 A A0 ls l W (T'.keep (hW.mono hlW.size)) (Nat.le_trans hlW.size hW.size) G (Vals.keep h0' hW) hL0 d1 d2 d3).mono fun e w' h => ⟨h.1, by
      rcases h.2 with ⟨k, h⟩ | ⟨k, h⟩
      · exact h
      · exact absurd hI k⟩
  obtain ⟨g, off, Ai, ci, rfl, hg, hr0, -⟩ := G.at_ T' (i := 0) (by omega)
  have hr0' : (w.alloc O).cell? ⟨g, off, none⟩ = some (.slice Ai m ci) := hr0
  have hKP : ∀ W, Below (w.alloc O).heap.size (w.alloc O) W → W.cell? ⟨w.heap.size, 0, none⟩ = some (.slice A0 L0 c0) ∧ W.cell? ⟨w.heap.size, 1, none⟩ = some (.slice A1 L1 c1) ∧ W.cell? ⟨w.heap.size, 2, none⟩ = some (.slice A2 L2 c2) ∧ W.cell? ⟨w.heap.size, 3, none⟩ = some (.int .i64 cost) ∧ W.cell? ⟨g, off, none⟩ = some (.slice Ai m ci) := fun W h =>
    ⟨(hbx.keep h).cell 0, (hbx.keep h).cell 1, (hbx.keep h).cell 2, (hbx.keep h).cell 3, (h.cell (p := ⟨g, off, none⟩) (Nat.lt_of_lt_of_le hg hlW.size)).trans hr0'⟩
  obtain ⟨x0, x1, x2, x3, -⟩ := hKP _ (Below.refl _ _)
  have HIA := Lib.hid hia
  have HCK := Lib.hid hck
  have HKP := Lib.hid hKP
  have hnI : (0 : Int) < (n : Int) := by omega
  have hnN : 0 < n := by omega
  have hb1 : ((L1 : Int) != (n : Int)) = false := by simp; omega
  have hb2 : ((L2 : Int) != (m : Int)) = true := by simp; omega
  clear hbx h0 h1 h2 T T' hck hce hL0 hL1 hL2 hr0 hia G hKP hchk h0' h1' h2' hI hx hy
  subst hO
  go_enter Try.func33, Try.ntmps33
  go_wp2_with (go_at_call 25; refine (HCK.out).mono ?_; rintro e w1 ⟨rfl, rfl⟩)
  generalize w.alloc (Obj.cells #[.slice A0 L0 c0, .slice A1 L1 c1, .slice A2 L2 c2, .int .i64 cost] 35) = W at *
  have hWd : Below W.heap.size W W.drew := (Below.refl W.heap.size W).drew
  refine wp_region_held_drew (S := (fun w' => w'.cell? ⟨w.heap.size, 0, none⟩ = some (.slice A0 L0 c0) ∧ w'.cell? ⟨w.heap.size, 1, none⟩ = some (.slice A1 L1 c1) ∧ w'.cell? ⟨w.heap.size, 2, none⟩ = some (.slice A2 L2 c2) ∧ w'.cell? ⟨g, off, none⟩ = some (.slice Ai m ci))) (by kernel_rfl) ?_ (fun hHeld => ?_)
  · (try dsimp only); exact ⟨x0, x1, x2, hr0'⟩
  refine wpAnyH_take (i := 0) (oi := { dst := some 9, op := Op.move (Operand.tmp 0), type := 22, pos := "proof.go:13", after := #[], guard := none }) (v := ?vd1) rfl (by kernel_rfl) (by kernel_rfl) (by kernel_rfl) (fun _ _ _ h => h) (Or.inl ⟨by rfl, ?yd1⟩) (by assumption) ?rd1
  case yd1 => (intro w hSw; (try dsimp only at hSw); go_simp; (try with_reducible rfl))
  try simp only [Act.put, List.setIfInBounds_toArray, List.set_cons_zero, List.set_cons_succ]
  refine wpAnyH_take (i := 1) (oi := { dst := some 10, op := Op.fieldAddr 35 (Operand.tmp 3) 0, type := 0, pos := "proof.go:13", after := #[], guard := none }) (v := ?vd2) rfl (by kernel_rfl) (by kernel_rfl) (by kernel_rfl) (fun _ _ _ h => h) (Or.inl ⟨by rfl, ?yd2⟩) (by assumption) ?rd2
  case yd2 => (intro w hSw; (try dsimp only at hSw); go_simp; (try with_reducible rfl))
  try simp only [Act.put, List.setIfInBounds_toArray, List.set_cons_zero, List.set_cons_succ]
  refine wpAnyH_take (i := 2) (oi := { dst := some 11, op := Op.load 23 (Operand.tmp 10), type := 23, pos := "proof.go:13", after := #[{ on := 1, ground := Ground.data }], guard := none }) (v := ?vd3) rfl (by kernel_rfl) (by kernel_rfl) (by kernel_rfl) (fun _ _ _ h => h) (Or.inl ⟨by rfl, ?yd3⟩) (by assumption) ?rd3
  case yd3 => (intro w hSw; (try dsimp only at hSw); go_simp; (try with_reducible rfl))
  try simp only [Act.put, List.setIfInBounds_toArray, List.set_cons_zero, List.set_cons_succ]
  refine wpAnyH_ready (rs := [3]) (by kernel_rfl) (by simp) ?_
  refine AllReadyH.cons (o := { dst := some 12, op := Op.call { callee := Callee.value (Operand.func 48), args := #[Operand.tmp 9, Operand.tmp 11], argTypes := #[22, 23] }, type := 4, pos := "proof.go:13", after := #[{ on := 0, ground := Ground.data }, { on := 2, ground := Ground.data }], guard := none }) rfl (fun K hK => ?_) AllReadyH.nil
  go_simp; go_wp2_with (go_at_call 48; (with_reducible refine (HIA.out _ hWd).mono ?_); rintro e w5 ⟨hl5, rfl⟩; have hl5' := hWd.trans hl5; obtain ⟨k0, k1, k2, k3, k4⟩ := HKP.out w5 hl5')
  refine hK.out _ _ ?_ (fun hHeld => ?_)
  · (try dsimp only); exact ⟨k0, k1, k2, k4⟩
  clear hK K
  refine wpAnyH_take (i := 4) (oi := { dst := some 13, op := Op.unOp UnOp.not 4 (Operand.tmp 12), type := 4, pos := "proof.go:13", after := #[{ on := 3, ground := Ground.data }], guard := none }) (v := ?vd5) rfl (by kernel_rfl) (by kernel_rfl) (by kernel_rfl) (fun _ _ _ h => h) (Or.inl ⟨by rfl, ?yd5⟩) (by assumption) ?rd5
  case yd5 => (intro w hSw; (try dsimp only at hSw); go_simp; (try with_reducible rfl))
  try simp only [Act.put, List.setIfInBounds_toArray, List.set_cons_zero, List.set_cons_succ]
  refine wpAnyH_take (i := 5) (oi := { dst := some 14, op := Op.move (Operand.tmp 13), type := 4, pos := "proof.go:13", after := #[{ on := 4, ground := Ground.data }, { on := 3, ground := Ground.chain }], guard := none }) (v := ?vd6) rfl (by kernel_rfl) (by kernel_rfl) (by kernel_rfl) (fun _ _ _ h => h) (Or.inl ⟨by rfl, ?yd6⟩) (by assumption) ?rd6
  case yd6 => (intro w hSw; (try dsimp only at hSw); go_simp; (try with_reducible rfl))
  try simp only [Act.put, List.setIfInBounds_toArray, List.set_cons_zero, List.set_cons_succ]
  refine wpAnyH_take (i := 6) (oi := { dst := some 15, op := Op.fieldAddr 35 (Operand.tmp 3) 1, type := 0, pos := "proof.go:13", after := #[{ on := 5, ground := Ground.guard }], guard := some (5, false) }) (v := ?vd7) rfl (by kernel_rfl) (by kernel_rfl) (by kernel_rfl) (fun _ _ _ h => h) (Or.inl ⟨by rfl, ?yd7⟩) (by assumption) ?rd7
  case yd7 => (intro w hSw; (try dsimp only at hSw); go_simp; (try with_reducible rfl))
  try simp only [Act.put, List.setIfInBounds_toArray, List.set_cons_zero, List.set_cons_succ]
  refine wpAnyH_take (i := 7) (oi := { dst := some 16, op := Op.load 23 (Operand.tmp 15), type := 23, pos := "proof.go:13", after := #[{ on := 6, ground := Ground.data }, { on := 5, ground := Ground.guard }], guard := some (5, false) }) (v := ?vd8) rfl (by kernel_rfl) (by kernel_rfl) (by kernel_rfl) (fun _ _ _ h => h) (Or.inl ⟨by rfl, ?yd8⟩) (by assumption) ?rd8
  case yd8 => (intro w hSw; (try dsimp only at hSw); go_simp; (try with_reducible rfl))
  try simp only [Act.put, List.setIfInBounds_toArray, List.set_cons_zero, List.set_cons_succ]
  refine wpAnyH_take (i := 8) (oi := { dst := some 17, op := Op.call { callee := Callee.builtin Builtin.len, args := #[Operand.tmp 16], argTypes := #[23] }, type := 3, pos := "proof.go:13", after := #[{ on := 7, ground := Ground.data }, { on := 5, ground := Ground.guard }], guard := some (5, false) }) (v := ?vd9) rfl (by kernel_rfl) (by kernel_rfl) (by kernel_rfl) (fun _ _ _ h => h) (Or.inl ⟨by rfl, ?yd9⟩) (by assumption) ?rd9
  case yd9 => (intro w hSw; (try dsimp only at hSw); go_simp; (try with_reducible rfl))
  try simp only [Act.put, List.setIfInBounds_toArray, List.set_cons_zero, List.set_cons_succ]
  refine wpAnyH_take (i := 9) (oi := { dst := some 18, op := Op.move (Operand.tmp 0), type := 22, pos := "proof.go:13", after := #[{ on := 5, ground := Ground.guard }], guard := some (5, false) }) (v := ?vd10) rfl (by kernel_rfl) (by kernel_rfl) (by kernel_rfl) (fun _ _ _ h => h) (Or.inl ⟨by rfl, ?yd10⟩) (by assumption) ?rd10
  case yd10 => (intro w hSw; (try dsimp only at hSw); go_simp; (try with_reducible rfl))
  try simp only [Act.put, List.setIfInBounds_toArray, List.set_cons_zero, List.set_cons_succ]
  refine wpAnyH_take (i := 10) (oi := { dst := some 19, op := Op.call { callee := Callee.builtin Builtin.len, args := #[Operand.tmp 18], argTypes := #[22] }, type := 3, pos := "proof.go:13", after := #[{ on := 9, ground := Ground.data }, { on := 5, ground := Ground.guard }], guard := some (5, false) }) (v := ?vd11) rfl (by kernel_rfl) (by kernel_rfl) (by kernel_rfl) (fun _ _ _ h => h) (Or.inl ⟨by rfl, ?yd11⟩) (by assumption) ?rd11
  case yd11 => (intro w hSw; (try dsimp only at hSw); go_simp; (try with_reducible rfl))
  try simp only [Act.put, List.setIfInBounds_toArray, List.set_cons_zero, List.set_cons_succ]
  refine wpAnyH_take (i := 11) (oi := { dst := some 20, op := Op.binOp BinOp.neq 3 (Operand.tmp 17) (Operand.tmp 19) 3, type := 4, pos := "proof.go:13", after := #[{ on := 8, ground := Ground.data }, { on := 10, ground := Ground.data }, { on := 5, ground := Ground.guard }], guard := some (5, false) }) (v := ?vd12) rfl (by kernel_rfl) (by kernel_rfl) (by kernel_rfl) (fun _ _ _ h => h) (Or.inl ⟨by rfl, ?yd12⟩) (by assumption) ?rd12
  case yd12 => (intro w hSw; (try dsimp only at hSw); go_simp; (try with_reducible rfl))
  try simp only [Act.put, List.setIfInBounds_toArray, List.set_cons_zero, List.set_cons_succ]
  refine wpAnyH_take (i := 12) (oi := { dst := some 21, op := Op.pick (Operand.tmp 14) (Operand.const (Value.bool true)) (Operand.tmp 20), type := 4, pos := "proof.go:13", after := #[{ on := 5, ground := Ground.data }, { on := 11, ground := Ground.data }], guard := none }) (v := ?vd13) rfl (by kernel_rfl) (by kernel_rfl) (by kernel_rfl) (fun _ _ _ h => h) (Or.inl ⟨by rfl, ?yd13⟩) (by assumption) ?rd13
  case yd13 => (intro w hSw; (try dsimp only at hSw); go_simp; (try with_reducible rfl))
  try simp only [Act.put, List.setIfInBounds_toArray, List.set_cons_zero, List.set_cons_succ]
  refine wpAnyH_take (i := 13) (oi := { dst := some 22, op := Op.move (Operand.tmp 21), type := 4, pos := "proof.go:13", after := #[{ on := 12, ground := Ground.data }, { on := 5, ground := Ground.chain }], guard := none }) (v := ?vd14) rfl (by kernel_rfl) (by kernel_rfl) (by kernel_rfl) (fun _ _ _ h => h) (Or.inl ⟨by rfl, ?yd14⟩) (by assumption) ?rd14
  case yd14 => (intro w hSw; (try dsimp only at hSw); go_simp; (try with_reducible rfl))
  try simp only [Act.put, List.setIfInBounds_toArray, List.set_cons_zero, List.set_cons_succ]
  refine wpAnyH_take (i := 14) (oi := { dst := some 23, op := Op.fieldAddr 35 (Operand.tmp 3) 2, type := 0, pos := "proof.go:13", after := #[{ on := 13, ground := Ground.guard }], guard := some (13, false) }) (v := ?vd15) rfl (by kernel_rfl) (by kernel_rfl) (by kernel_rfl) (fun _ _ _ h => h) (Or.inl ⟨by rfl, ?yd15⟩) (by assumption) ?rd15
  case yd15 => (intro w hSw; (try dsimp only at hSw); go_simp; (try with_reducible rfl))
  try simp only [Act.put, List.setIfInBounds_toArray, List.set_cons_zero, List.set_cons_succ]
  refine wpAnyH_take (i := 15) (oi := { dst := some 24, op := Op.load 23 (Operand.tmp 23), type := 23, pos := "proof.go:13", after := #[{ on := 14, ground := Ground.data }, { on := 13, ground := Ground.guard }], guard := some (13, false) }) (v := ?vd16) rfl (by kernel_rfl) (by kernel_rfl) (by kernel_rfl) (fun _ _ _ h => h) (Or.inl ⟨by rfl, ?yd16⟩) (by assumption) ?rd16
  case yd16 => (intro w hSw; (try dsimp only at hSw); go_simp; (try with_reducible rfl))
  try simp only [Act.put, List.setIfInBounds_toArray, List.set_cons_zero, List.set_cons_succ]
  refine wpAnyH_take (i := 16) (oi := { dst := some 25, op := Op.call { callee := Callee.builtin Builtin.len, args := #[Operand.tmp 24], argTypes := #[23] }, type := 3, pos := "proof.go:13", after := #[{ on := 15, ground := Ground.data }, { on := 13, ground := Ground.guard }], guard := some (13, false) }) (v := ?vd17) rfl (by kernel_rfl) (by kernel_rfl) (by kernel_rfl) (fun _ _ _ h => h) (Or.inl ⟨by rfl, ?yd17⟩) (by assumption) ?rd17
  case yd17 => (intro w hSw; (try dsimp only at hSw); go_simp; (try with_reducible rfl))
  try simp only [Act.put, List.setIfInBounds_toArray, List.set_cons_zero, List.set_cons_succ]
  refine wpAnyH_take (i := 17) (oi := { dst := some 26, op := Op.move (Operand.tmp 0), type := 22, pos := "proof.go:13", after := #[{ on := 13, ground := Ground.guard }], guard := some (13, false) }) (v := ?vd18) rfl (by kernel_rfl) (by kernel_rfl) (by kernel_rfl) (fun _ _ _ h => h) (Or.inl ⟨by rfl, ?yd18⟩) (by assumption) ?rd18
  case yd18 => (intro w hSw; (try dsimp only at hSw); go_simp; (try with_reducible rfl))
  try simp only [Act.put, List.setIfInBounds_toArray, List.set_cons_zero, List.set_cons_succ]
  refine wpAnyH_take (i := 18) (oi := { dst := some 27, op := Op.indexAddr 22 (Operand.tmp 26) (Operand.const (Value.int IntKind.i64 0)), type := 0, pos := "proof.go:13", after := #[{ on := 17, ground := Ground.data }, { on := 13, ground := Ground.guard }], guard := some (13, false) }) (v := ?vd19) rfl (by kernel_rfl) (by kernel_rfl) (by kernel_rfl) (fun _ _ _ h => h) (Or.inl ⟨by rfl, ?yd19⟩) (by assumption) ?rd19
  case yd19 => (intro w hSw; (try dsimp only at hSw); go_simp; (try with_reducible rfl))
  try simp only [Act.put, List.setIfInBounds_toArray, List.set_cons_zero, List.set_cons_succ]
  refine wpAnyH_take (i := 19) (oi := { dst := some 28, op := Op.load 23 (Operand.tmp 27), type := 23, pos := "proof.go:13", after := #[{ on := 18, ground := Ground.data }, { on := 13, ground := Ground.guard }], guard := some (13, false) }) (v := ?vd20) rfl (by kernel_rfl) (by kernel_rfl) (by kernel_rfl) (fun _ _ _ h => h) (Or.inl ⟨by rfl, ?yd20⟩) (by assumption) ?rd20
  case yd20 => (intro w hSw; (try dsimp only at hSw); go_simp; (try with_reducible rfl))
  try simp only [Act.put, List.setIfInBounds_toArray, List.set_cons_zero, List.set_cons_succ]
  refine wpAnyH_take (i := 20) (oi := { dst := some 29, op := Op.call { callee := Callee.builtin Builtin.len, args := #[Operand.tmp 28], argTypes := #[23] }, type := 3, pos := "proof.go:13", after := #[{ on := 19, ground := Ground.data }, { on := 13, ground := Ground.guard }], guard := some (13, false) }) (v := ?vd21) rfl (by kernel_rfl) (by kernel_rfl) (by kernel_rfl) (fun _ _ _ h => h) (Or.inl ⟨by rfl, ?yd21⟩) (by assumption) ?rd21
  case yd21 => (intro w hSw; (try dsimp only at hSw); go_simp; (try with_reducible rfl))
  try simp only [Act.put, List.setIfInBounds_toArray, List.set_cons_zero, List.set_cons_succ]
  refine wpAnyH_take (i := 21) (oi := { dst := some 30, op := Op.binOp BinOp.neq 3 (Operand.tmp 25) (Operand.tmp 29) 3, type := 4, pos := "proof.go:13", after := #[{ on := 16, ground := Ground.data }, { on := 20, ground := Ground.data }, { on := 13, ground := Ground.guard }], guard := some (13, false) }) (v := ?vd22) rfl (by kernel_rfl) (by kernel_rfl) (by kernel_rfl) (fun _ _ _ h => h) (Or.inl ⟨by rfl, ?yd22⟩) (by assumption) ?rd22
  case yd22 => (intro w hSw; (try dsimp only at hSw); go_simp; (try with_reducible rfl))
  try simp only [Act.put, List.setIfInBounds_toArray, List.set_cons_zero, List.set_cons_succ]
  refine wpAnyH_take (i := 22) (oi := { dst := some 31, op := Op.pick (Operand.tmp 22) (Operand.const (Value.bool true)) (Operand.tmp 30), type := 4, pos := "proof.go:13", after := #[{ on := 13, ground := Ground.data }, { on := 21, ground := Ground.data }], guard := none }) (v := ?vd23) rfl (by kernel_rfl) (by kernel_rfl) (by kernel_rfl) (fun _ _ _ h => h) (Or.inl ⟨by rfl, ?yd23⟩) (by assumption) ?rd23
  case yd23 => (intro w hSw; (try dsimp only at hSw); go_simp; (try with_reducible rfl))
  try simp only [Act.put, List.setIfInBounds_toArray, List.set_cons_zero, List.set_cons_succ]
  refine wpAnyH_done (by kernel_rfl) ?_ _
  go_wp2_with (fail)
  go_ret2
  exact ⟨hlW.trans (hl5'.mono hlW.size), rfl⟩

set_option maxHeartbeats 8000000 in
set_option maxRecDepth 100000 in
theorem mproves_e (cA c0 c1 c2 n m L0 L1 L2 : Nat) (A A0 A1 A2 : Option Addr) (ls : List (List Int)) (l us vs : List Int) (cost : Int) (w : World) (T : Tab w.heap.size w A ls) (h0 : Ints w A0 l) (h1 : Ints w A1 us) (h2 : Ints w A2 vs)
    (G : Good n m ls) (d1 : 1 ≤ n) (d2 : n ≤ m) (d3 : m ≤ 64) (hchk : chkT ls = true) (hL0 : L0 = l.length) (hL1 : L1 = us.length) (hL2 : L2 = vs.length) (hI : IsAsg n m (cst ls) l) (hx : L1 = n) (hy : L2 = m) (hs : costN (cst ls) (colOf l) n ≠ cost) :
    Calls Try.prog 33 #[.slice A n cA, .agg #[.slice A0 L0 c0, .slice A1 L1 c1, .slice A2 L2 c2, .int .i64 cost]] w fun e w' => Below w.heap.size w w' ∧ e = .returned (.tuple #[.bool false, .int .i64 0]) := by
  obtain ⟨O, hO⟩ : ∃ O, O = Obj.cells #[.slice A0 L0 c0, .slice A1 L1 c1, .slice A2 L2 c2, .int .i64 cost] 35 := ⟨_, rfl⟩
  have hbx : Blk 35 (w.alloc O) w.heap.size [.slice A0 L0 c0, .slice A1 L1 c1, .slice A2 L2 c2, .int .i64 cost] := by rw [hO]; exact Blk.new w 35 _
  have hlW := below_new w O
  have T' := T.keep hlW
  have hck := check_any w.heap.size A cA n ls (w.alloc O) T' G.rows.symm
  have hce : ckE ls = 0 := by unfold ckE; rw [hchk]; rfl
  rw [hce] at hck
  have h0' := Vals.keep h0 hlW
  have h1' := Vals.keep h1 hlW
  have h2' := Vals.keep h2 hlW
  have hia : ∀ W, Below (w.alloc O).heap.size (w.alloc O) W → Calls Try.prog 48 #[.slice A n cA, .slice A0 L0 c0] W fun e w' => Below W.heap.size W w' ∧ e = .returned (.bool true) := fun W hW =>
    (isAsg_any w.heap.size n m cA c0 L0 A A0 ls l W (T'.keep (hW.mono hlW.size)) (Nat.le_trans hlW.size hW.size) G (Vals.keep h0' hW) hL0 d1 d2 d3).mono fun e w' h => ⟨h.1, by
      rcases h.2 with ⟨k, h⟩ | ⟨k, h⟩
      · exact h
      · exact absurd hI k⟩
  have hin : ∀ a, a < n → 0 ≤ l.getD a 0 ∧ l.getD a 0 < (m : Int) := fun a ha => by
    have p1 := hI.pos a ha
    have p2 := (hI.asg.ok a ha).1
    unfold colOf at p2
    exact ⟨p1, by omega⟩
  have hL0n : L0 = n := hL0.trans hI.len
  have hto : ∀ W, Below (w.alloc O).heap.size (w.alloc O) W → Calls Try.prog 49 #[.slice A n cA, .slice A0 L0 c0] W fun e w' => e = .returned (.int .i64 (costN (cst ls) (colOf l) n)) ∧ W = w' := fun W hW =>
    total_any w.heap.size n m cA c0 L0 A A0 ls l W (T'.keep (hW.mono hlW.size)) G (Vals.keep h0' hW) hL0 d1 d2 d3 hI
  obtain ⟨g, off, Ai, ci, rfl, hg, hr0, -⟩ := G.at_ T' (i := 0) (by omega)
  have hr0' : (w.alloc O).cell? ⟨g, off, none⟩ = some (.slice Ai m ci) := hr0
  have hKP : ∀ W, Below (w.alloc O).heap.size (w.alloc O) W → W.cell? ⟨w.heap.size, 0, none⟩ = some (.slice A0 L0 c0) ∧ W.cell? ⟨w.heap.size, 1, none⟩ = some (.slice A1 L1 c1) ∧ W.cell? ⟨w.heap.size, 2, none⟩ = some (.slice A2 L2 c2) ∧ W.cell? ⟨w.heap.size, 3, none⟩ = some (.int .i64 cost) ∧ W.cell? ⟨g, off, none⟩ = some (.slice Ai m ci) := fun W h =>
    ⟨(hbx.keep h).cell 0, (hbx.keep h).cell 1, (hbx.keep h).cell 2, (hbx.keep h).cell 3, (h.cell (p := ⟨g, off, none⟩) (Nat.lt_of_lt_of_le hg hlW.size)).trans hr0'⟩
  obtain ⟨x0, x1, x2, x3, -⟩ := hKP _ (Below.refl _ _)
  have HIA := Lib.hid hia
  have HCK := Lib.hid hck
  have HKP := Lib.hid hKP
  have hnI : (0 : Int) < (n : Int) := by omega
  have hnN : 0 < n := by omega
  have hb1 : ((L1 : Int) != (n : Int)) = false := by simp; omega
  have hb2 : ((L2 : Int) != (m : Int)) = false := by simp; omega
  have HTO := Lib.hid hto
  generalize costN (cst ls) (colOf l) n = sm at *
  have hb3 : (cost == sm) = false := by simp; exact fun e => hs e.symm
  clear hbx h0 h1 h2 T T' hck hce hL0 hL1 hL2 hr0 hia G hKP hchk h0' h1' h2' hI hx hy hin hL0n hto hs
  subst hO
  go_enter Try.func33, Try.ntmps33
  go_wp2_with (go_at_call 25; refine (HCK.out).mono ?_; rintro e w1 ⟨rfl, rfl⟩)
  generalize w.alloc (Obj.cells #[.slice A0 L0 c0, .slice A1 L1 c1, .slice A2 L2 c2, .int .i64 cost] 35) = W at *
  have hWd : Below W.heap.size W W.drew := (Below.refl W.heap.size W).drew
  refine wp_region_held_drew (S := (fun w' => w'.cell? ⟨w.heap.size, 0, none⟩ = some (.slice A0 L0 c0) ∧ w'.cell? ⟨w.heap.size, 1, none⟩ = some (.slice A1 L1 c1) ∧ w'.cell? ⟨w.heap.size, 2, none⟩ = some (.slice A2 L2 c2) ∧ w'.cell? ⟨g, off, none⟩ = some (.slice Ai m ci))) (by kernel_rfl) ?_ (fun hHeld => ?_)
  · (try dsimp only); exact ⟨x0, x1, x2, hr0'⟩
  refine wpAnyH_take (i := 0) (oi := { dst := some 9, op := Op.move (Operand.tmp 0), type := 22, pos := "proof.go:13", after := #[], guard := none }) (v := ?ve1) rfl (by kernel_rfl) (by kernel_rfl) (by kernel_rfl) (fun _ _ _ h => h) (Or.inl ⟨by rfl, ?ye1⟩) (by assumption) ?re1
  case ye1 => (intro w hSw; (try dsimp only at hSw); go_simp; (try with_reducible rfl))
  try simp only [Act.put, List.setIfInBounds_toArray, List.set_cons_zero, List.set_cons_succ]
  refine wpAnyH_take (i := 1) (oi := { dst := some 10, op := Op.fieldAddr 35 (Operand.tmp 3) 0, type := 0, pos := "proof.go:13", after := #[], guard := none }) (v := ?ve2) rfl (by kernel_rfl) (by kernel_rfl) (by kernel_rfl) (fun _ _ _ h => h) (Or.inl ⟨by rfl, ?ye2⟩) (by assumption) ?re2
  case ye2 => (intro w hSw; (try dsimp only at hSw); go_simp; (try with_reducible rfl))
  try simp only [Act.put, List.setIfInBounds_toArray, List.set_cons_zero, List.set_cons_succ]
  refine wpAnyH_take (i := 2) (oi := { dst := some 11, op := Op.load 23 (Operand.tmp 10), type := 23, pos := "proof.go:13", after := #[{ on := 1, ground := Ground.data }], guard := none }) (v := ?ve3) rfl (by kernel_rfl) (by kernel_rfl) (by kernel_rfl) (fun _ _ _ h => h) (Or.inl ⟨by rfl, ?ye3⟩) (by assumption) ?re3
  case ye3 => (intro w hSw; (try dsimp only at hSw); go_simp; (try with_reducible rfl))
  try simp only [Act.put, List.setIfInBounds_toArray, List.set_cons_zero, List.set_cons_succ]
  refine wpAnyH_ready (rs := [3]) (by kernel_rfl) (by simp) ?_
  refine AllReadyH.cons (o := { dst := some 12, op := Op.call { callee := Callee.value (Operand.func 48), args := #[Operand.tmp 9, Operand.tmp 11], argTypes := #[22, 23] }, type := 4, pos := "proof.go:13", after := #[{ on := 0, ground := Ground.data }, { on := 2, ground := Ground.data }], guard := none }) rfl (fun K hK => ?_) AllReadyH.nil
  go_simp; go_wp2_with (go_at_call 48; (with_reducible refine (HIA.out _ hWd).mono ?_); rintro e w5 ⟨hl5, rfl⟩; have hl5' := hWd.trans hl5; obtain ⟨k0, k1, k2, k3, k4⟩ := HKP.out w5 hl5')
  refine hK.out _ _ ?_ (fun hHeld => ?_)
  · (try dsimp only); exact ⟨k0, k1, k2, k4⟩
  clear hK K
  refine wpAnyH_take (i := 4) (oi := { dst := some 13, op := Op.unOp UnOp.not 4 (Operand.tmp 12), type := 4, pos := "proof.go:13", after := #[{ on := 3, ground := Ground.data }], guard := none }) (v := ?ve5) rfl (by kernel_rfl) (by kernel_rfl) (by kernel_rfl) (fun _ _ _ h => h) (Or.inl ⟨by rfl, ?ye5⟩) (by assumption) ?re5
  case ye5 => (intro w hSw; (try dsimp only at hSw); go_simp; (try with_reducible rfl))
  try simp only [Act.put, List.setIfInBounds_toArray, List.set_cons_zero, List.set_cons_succ]
  refine wpAnyH_take (i := 5) (oi := { dst := some 14, op := Op.move (Operand.tmp 13), type := 4, pos := "proof.go:13", after := #[{ on := 4, ground := Ground.data }, { on := 3, ground := Ground.chain }], guard := none }) (v := ?ve6) rfl (by kernel_rfl) (by kernel_rfl) (by kernel_rfl) (fun _ _ _ h => h) (Or.inl ⟨by rfl, ?ye6⟩) (by assumption) ?re6
  case ye6 => (intro w hSw; (try dsimp only at hSw); go_simp; (try with_reducible rfl))
  try simp only [Act.put, List.setIfInBounds_toArray, List.set_cons_zero, List.set_cons_succ]
  refine wpAnyH_take (i := 6) (oi := { dst := some 15, op := Op.fieldAddr 35 (Operand.tmp 3) 1, type := 0, pos := "proof.go:13", after := #[{ on := 5, ground := Ground.guard }], guard := some (5, false) }) (v := ?ve7) rfl (by kernel_rfl) (by kernel_rfl) (by kernel_rfl) (fun _ _ _ h => h) (Or.inl ⟨by rfl, ?ye7⟩) (by assumption) ?re7
  case ye7 => (intro w hSw; (try dsimp only at hSw); go_simp; (try with_reducible rfl))
  try simp only [Act.put, List.setIfInBounds_toArray, List.set_cons_zero, List.set_cons_succ]
  refine wpAnyH_take (i := 7) (oi := { dst := some 16, op := Op.load 23 (Operand.tmp 15), type := 23, pos := "proof.go:13", after := #[{ on := 6, ground := Ground.data }, { on := 5, ground := Ground.guard }], guard := some (5, false) }) (v := ?ve8) rfl (by kernel_rfl) (by kernel_rfl) (by kernel_rfl) (fun _ _ _ h => h) (Or.inl ⟨by rfl, ?ye8⟩) (by assumption) ?re8
  case ye8 => (intro w hSw; (try dsimp only at hSw); go_simp; (try with_reducible rfl))
  try simp only [Act.put, List.setIfInBounds_toArray, List.set_cons_zero, List.set_cons_succ]
  refine wpAnyH_take (i := 8) (oi := { dst := some 17, op := Op.call { callee := Callee.builtin Builtin.len, args := #[Operand.tmp 16], argTypes := #[23] }, type := 3, pos := "proof.go:13", after := #[{ on := 7, ground := Ground.data }, { on := 5, ground := Ground.guard }], guard := some (5, false) }) (v := ?ve9) rfl (by kernel_rfl) (by kernel_rfl) (by kernel_rfl) (fun _ _ _ h => h) (Or.inl ⟨by rfl, ?ye9⟩) (by assumption) ?re9
  case ye9 => (intro w hSw; (try dsimp only at hSw); go_simp; (try with_reducible rfl))
  try simp only [Act.put, List.setIfInBounds_toArray, List.set_cons_zero, List.set_cons_succ]
  refine wpAnyH_take (i := 9) (oi := { dst := some 18, op := Op.move (Operand.tmp 0), type := 22, pos := "proof.go:13", after := #[{ on := 5, ground := Ground.guard }], guard := some (5, false) }) (v := ?ve10) rfl (by kernel_rfl) (by kernel_rfl) (by kernel_rfl) (fun _ _ _ h => h) (Or.inl ⟨by rfl, ?ye10⟩) (by assumption) ?re10
  case ye10 => (intro w hSw; (try dsimp only at hSw); go_simp; (try with_reducible rfl))
  try simp only [Act.put, List.setIfInBounds_toArray, List.set_cons_zero, List.set_cons_succ]
  refine wpAnyH_take (i := 10) (oi := { dst := some 19, op := Op.call { callee := Callee.builtin Builtin.len, args := #[Operand.tmp 18], argTypes := #[22] }, type := 3, pos := "proof.go:13", after := #[{ on := 9, ground := Ground.data }, { on := 5, ground := Ground.guard }], guard := some (5, false) }) (v := ?ve11) rfl (by kernel_rfl) (by kernel_rfl) (by kernel_rfl) (fun _ _ _ h => h) (Or.inl ⟨by rfl, ?ye11⟩) (by assumption) ?re11
  case ye11 => (intro w hSw; (try dsimp only at hSw); go_simp; (try with_reducible rfl))
  try simp only [Act.put, List.setIfInBounds_toArray, List.set_cons_zero, List.set_cons_succ]
  refine wpAnyH_take (i := 11) (oi := { dst := some 20, op := Op.binOp BinOp.neq 3 (Operand.tmp 17) (Operand.tmp 19) 3, type := 4, pos := "proof.go:13", after := #[{ on := 8, ground := Ground.data }, { on := 10, ground := Ground.data }, { on := 5, ground := Ground.guard }], guard := some (5, false) }) (v := ?ve12) rfl (by kernel_rfl) (by kernel_rfl) (by kernel_rfl) (fun _ _ _ h => h) (Or.inl ⟨by rfl, ?ye12⟩) (by assumption) ?re12
  case ye12 => (intro w hSw; (try dsimp only at hSw); go_simp; (try with_reducible rfl))
  try simp only [Act.put, List.setIfInBounds_toArray, List.set_cons_zero, List.set_cons_succ]
  refine wpAnyH_take (i := 12) (oi := { dst := some 21, op := Op.pick (Operand.tmp 14) (Operand.const (Value.bool true)) (Operand.tmp 20), type := 4, pos := "proof.go:13", after := #[{ on := 5, ground := Ground.data }, { on := 11, ground := Ground.data }], guard := none }) (v := ?ve13) rfl (by kernel_rfl) (by kernel_rfl) (by kernel_rfl) (fun _ _ _ h => h) (Or.inl ⟨by rfl, ?ye13⟩) (by assumption) ?re13
  case ye13 => (intro w hSw; (try dsimp only at hSw); go_simp; (try with_reducible rfl))
  try simp only [Act.put, List.setIfInBounds_toArray, List.set_cons_zero, List.set_cons_succ]
  refine wpAnyH_take (i := 13) (oi := { dst := some 22, op := Op.move (Operand.tmp 21), type := 4, pos := "proof.go:13", after := #[{ on := 12, ground := Ground.data }, { on := 5, ground := Ground.chain }], guard := none }) (v := ?ve14) rfl (by kernel_rfl) (by kernel_rfl) (by kernel_rfl) (fun _ _ _ h => h) (Or.inl ⟨by rfl, ?ye14⟩) (by assumption) ?re14
  case ye14 => (intro w hSw; (try dsimp only at hSw); go_simp; (try with_reducible rfl))
  try simp only [Act.put, List.setIfInBounds_toArray, List.set_cons_zero, List.set_cons_succ]
  refine wpAnyH_take (i := 14) (oi := { dst := some 23, op := Op.fieldAddr 35 (Operand.tmp 3) 2, type := 0, pos := "proof.go:13", after := #[{ on := 13, ground := Ground.guard }], guard := some (13, false) }) (v := ?ve15) rfl (by kernel_rfl) (by kernel_rfl) (by kernel_rfl) (fun _ _ _ h => h) (Or.inl ⟨by rfl, ?ye15⟩) (by assumption) ?re15
  case ye15 => (intro w hSw; (try dsimp only at hSw); go_simp; (try with_reducible rfl))
  try simp only [Act.put, List.setIfInBounds_toArray, List.set_cons_zero, List.set_cons_succ]
  refine wpAnyH_take (i := 15) (oi := { dst := some 24, op := Op.load 23 (Operand.tmp 23), type := 23, pos := "proof.go:13", after := #[{ on := 14, ground := Ground.data }, { on := 13, ground := Ground.guard }], guard := some (13, false) }) (v := ?ve16) rfl (by kernel_rfl) (by kernel_rfl) (by kernel_rfl) (fun _ _ _ h => h) (Or.inl ⟨by rfl, ?ye16⟩) (by assumption) ?re16
  case ye16 => (intro w hSw; (try dsimp only at hSw); go_simp; (try with_reducible rfl))
  try simp only [Act.put, List.setIfInBounds_toArray, List.set_cons_zero, List.set_cons_succ]
  refine wpAnyH_take (i := 16) (oi := { dst := some 25, op := Op.call { callee := Callee.builtin Builtin.len, args := #[Operand.tmp 24], argTypes := #[23] }, type := 3, pos := "proof.go:13", after := #[{ on := 15, ground := Ground.data }, { on := 13, ground := Ground.guard }], guard := some (13, false) }) (v := ?ve17) rfl (by kernel_rfl) (by kernel_rfl) (by kernel_rfl) (fun _ _ _ h => h) (Or.inl ⟨by rfl, ?ye17⟩) (by assumption) ?re17
  case ye17 => (intro w hSw; (try dsimp only at hSw); go_simp; (try with_reducible rfl))
  try simp only [Act.put, List.setIfInBounds_toArray, List.set_cons_zero, List.set_cons_succ]
  refine wpAnyH_take (i := 17) (oi := { dst := some 26, op := Op.move (Operand.tmp 0), type := 22, pos := "proof.go:13", after := #[{ on := 13, ground := Ground.guard }], guard := some (13, false) }) (v := ?ve18) rfl (by kernel_rfl) (by kernel_rfl) (by kernel_rfl) (fun _ _ _ h => h) (Or.inl ⟨by rfl, ?ye18⟩) (by assumption) ?re18
  case ye18 => (intro w hSw; (try dsimp only at hSw); go_simp; (try with_reducible rfl))
  try simp only [Act.put, List.setIfInBounds_toArray, List.set_cons_zero, List.set_cons_succ]
  refine wpAnyH_take (i := 18) (oi := { dst := some 27, op := Op.indexAddr 22 (Operand.tmp 26) (Operand.const (Value.int IntKind.i64 0)), type := 0, pos := "proof.go:13", after := #[{ on := 17, ground := Ground.data }, { on := 13, ground := Ground.guard }], guard := some (13, false) }) (v := ?ve19) rfl (by kernel_rfl) (by kernel_rfl) (by kernel_rfl) (fun _ _ _ h => h) (Or.inl ⟨by rfl, ?ye19⟩) (by assumption) ?re19
  case ye19 => (intro w hSw; (try dsimp only at hSw); go_simp; (try with_reducible rfl))
  try simp only [Act.put, List.setIfInBounds_toArray, List.set_cons_zero, List.set_cons_succ]
  refine wpAnyH_take (i := 19) (oi := { dst := some 28, op := Op.load 23 (Operand.tmp 27), type := 23, pos := "proof.go:13", after := #[{ on := 18, ground := Ground.data }, { on := 13, ground := Ground.guard }], guard := some (13, false) }) (v := ?ve20) rfl (by kernel_rfl) (by kernel_rfl) (by kernel_rfl) (fun _ _ _ h => h) (Or.inl ⟨by rfl, ?ye20⟩) (by assumption) ?re20
  case ye20 => (intro w hSw; (try dsimp only at hSw); go_simp; (try with_reducible rfl))
  try simp only [Act.put, List.setIfInBounds_toArray, List.set_cons_zero, List.set_cons_succ]
  refine wpAnyH_take (i := 20) (oi := { dst := some 29, op := Op.call { callee := Callee.builtin Builtin.len, args := #[Operand.tmp 28], argTypes := #[23] }, type := 3, pos := "proof.go:13", after := #[{ on := 19, ground := Ground.data }, { on := 13, ground := Ground.guard }], guard := some (13, false) }) (v := ?ve21) rfl (by kernel_rfl) (by kernel_rfl) (by kernel_rfl) (fun _ _ _ h => h) (Or.inl ⟨by rfl, ?ye21⟩) (by assumption) ?re21
  case ye21 => (intro w hSw; (try dsimp only at hSw); go_simp; (try with_reducible rfl))
  try simp only [Act.put, List.setIfInBounds_toArray, List.set_cons_zero, List.set_cons_succ]
  refine wpAnyH_take (i := 21) (oi := { dst := some 30, op := Op.binOp BinOp.neq 3 (Operand.tmp 25) (Operand.tmp 29) 3, type := 4, pos := "proof.go:13", after := #[{ on := 16, ground := Ground.data }, { on := 20, ground := Ground.data }, { on := 13, ground := Ground.guard }], guard := some (13, false) }) (v := ?ve22) rfl (by kernel_rfl) (by kernel_rfl) (by kernel_rfl) (fun _ _ _ h => h) (Or.inl ⟨by rfl, ?ye22⟩) (by assumption) ?re22
  case ye22 => (intro w hSw; (try dsimp only at hSw); go_simp; (try with_reducible rfl))
  try simp only [Act.put, List.setIfInBounds_toArray, List.set_cons_zero, List.set_cons_succ]
  refine wpAnyH_take (i := 22) (oi := { dst := some 31, op := Op.pick (Operand.tmp 22) (Operand.const (Value.bool true)) (Operand.tmp 30), type := 4, pos := "proof.go:13", after := #[{ on := 13, ground := Ground.data }, { on := 21, ground := Ground.data }], guard := none }) (v := ?ve23) rfl (by kernel_rfl) (by kernel_rfl) (by kernel_rfl) (fun _ _ _ h => h) (Or.inl ⟨by rfl, ?ye23⟩) (by assumption) ?re23
  case ye23 => (intro w hSw; (try dsimp only at hSw); go_simp; (try with_reducible rfl))
  try simp only [Act.put, List.setIfInBounds_toArray, List.set_cons_zero, List.set_cons_succ]
  refine wpAnyH_done (by kernel_rfl) ?_ _
  clear x0 x1 x2 x3 hr0'
  have hW5 : Below W.heap.size W w5.drew := hl5'.drew
  go_wp2_with (fail)
  refine wp_region_held_drew (S := (fun w' => w'.cell? ⟨w.heap.size, 0, none⟩ = some (.slice A0 L0 c0) ∧ w'.cell? ⟨w.heap.size, 1, none⟩ = some (.slice A1 L1 c1) ∧ w'.cell? ⟨w.heap.size, 2, none⟩ = some (.slice A2 L2 c2) ∧ w'.cell? ⟨w.heap.size, 3, none⟩ = some (.int .i64 cost))) (by kernel_rfl) ?_ (fun hHeld => ?_)
  · (try dsimp only); exact ⟨k0, k1, k2, k3⟩
  refine wpAnyH_take (i := 0) (oi := { dst := some 32, op := Op.fieldAddr 35 (Operand.tmp 3) 3, type := 0, pos := "proof.go:16", after := #[], guard := none }) (v := ?vee1) rfl (by kernel_rfl) (by kernel_rfl) (by kernel_rfl) (fun _ _ _ h => h) (Or.inl ⟨by rfl, ?yee1⟩) (by assumption) ?ree1
  case yee1 => (intro w hSw; (try dsimp only at hSw); go_simp; (try with_reducible rfl))
  try simp only [Act.put, List.setIfInBounds_toArray, List.set_cons_zero, List.set_cons_succ]
  refine wpAnyH_take (i := 1) (oi := { dst := some 33, op := Op.load 3 (Operand.tmp 32), type := 3, pos := "proof.go:16", after := #[{ on := 0, ground := Ground.data }], guard := none }) (v := ?vee2) rfl (by kernel_rfl) (by kernel_rfl) (by kernel_rfl) (fun _ _ _ h => h) (Or.inl ⟨by rfl, ?yee2⟩) (by assumption) ?ree2
  case yee2 => (intro w hSw; (try dsimp only at hSw); go_simp; (try with_reducible rfl))
  try simp only [Act.put, List.setIfInBounds_toArray, List.set_cons_zero, List.set_cons_succ]
  refine wpAnyH_take (i := 2) (oi := { dst := some 34, op := Op.move (Operand.tmp 0), type := 22, pos := "proof.go:16", after := #[], guard := none }) (v := ?vee3) rfl (by kernel_rfl) (by kernel_rfl) (by kernel_rfl) (fun _ _ _ h => h) (Or.inl ⟨by rfl, ?yee3⟩) (by assumption) ?ree3
  case yee3 => (intro w hSw; (try dsimp only at hSw); go_simp; (try with_reducible rfl))
  try simp only [Act.put, List.setIfInBounds_toArray, List.set_cons_zero, List.set_cons_succ]
  refine wpAnyH_take (i := 3) (oi := { dst := some 35, op := Op.fieldAddr 35 (Operand.tmp 3) 0, type := 0, pos := "proof.go:16", after := #[], guard := none }) (v := ?vee4) rfl (by kernel_rfl) (by kernel_rfl) (by kernel_rfl) (fun _ _ _ h => h) (Or.inl ⟨by rfl, ?yee4⟩) (by assumption) ?ree4
  case yee4 => (intro w hSw; (try dsimp only at hSw); go_simp; (try with_reducible rfl))
  try simp only [Act.put, List.setIfInBounds_toArray, List.set_cons_zero, List.set_cons_succ]
  refine wpAnyH_take (i := 4) (oi := { dst := some 36, op := Op.load 23 (Operand.tmp 35), type := 23, pos := "proof.go:16", after := #[{ on := 3, ground := Ground.data }], guard := none }) (v := ?vee5) rfl (by kernel_rfl) (by kernel_rfl) (by kernel_rfl) (fun _ _ _ h => h) (Or.inl ⟨by rfl, ?yee5⟩) (by assumption) ?ree5
  case yee5 => (intro w hSw; (try dsimp only at hSw); go_simp; (try with_reducible rfl))
  try simp only [Act.put, List.setIfInBounds_toArray, List.set_cons_zero, List.set_cons_succ]
  refine wpAnyH_ready (rs := [5]) (by kernel_rfl) (by simp) ?_
  refine AllReadyH.cons (o := { dst := some 37, op := Op.call { callee := Callee.value (Operand.func 49), args := #[Operand.tmp 34, Operand.tmp 36], argTypes := #[22, 23] }, type := 3, pos := "proof.go:16", after := #[{ on := 2, ground := Ground.data }, { on := 4, ground := Ground.data }], guard := none }) rfl (fun K hK => ?_) AllReadyH.nil
  go_simp; go_wp2_with (go_at_call 49; (with_reducible refine (HTO.out _ hW5).mono ?_); rintro e w6 ⟨rfl, rfl⟩)
  refine hK.out _ _ ?_ (fun hHeld => ?_)
  · (try dsimp only); first | exact ⟨i0, i1, i2, i3⟩ | exact ⟨j0, j1, j2, j3⟩ | exact ⟨k0, k1, k2, k3⟩
  clear hK K
  refine wpAnyH_take (i := 6) (oi := { dst := some 38, op := Op.binOp BinOp.eql 3 (Operand.tmp 33) (Operand.tmp 37) 3, type := 4, pos := "proof.go:16", after := #[{ on := 1, ground := Ground.data }, { on := 5, ground := Ground.data }], guard := none }) (v := ?vee7) rfl (by kernel_rfl) (by kernel_rfl) (by kernel_rfl) (fun _ _ _ h => h) (Or.inl ⟨by rfl, ?yee7⟩) (by assumption) ?ree7
  case yee7 => (intro w hSw; (try dsimp only at hSw); go_simp; (try with_reducible rfl))
  try simp only [Act.put, List.setIfInBounds_toArray, List.set_cons_zero, List.set_cons_succ]
  refine wpAnyH_take (i := 7) (oi := { dst := some 39, op := Op.move (Operand.tmp 38), type := 4, pos := "proof.go:16", after := #[{ on := 6, ground := Ground.data }, { on := 5, ground := Ground.chain }], guard := none }) (v := ?vee8) rfl (by kernel_rfl) (by kernel_rfl) (by kernel_rfl) (fun _ _ _ h => h) (Or.inl ⟨by rfl, ?yee8⟩) (by assumption) ?ree8
  case yee8 => (intro w hSw; (try dsimp only at hSw); go_simp; (try with_reducible rfl))
  try simp only [Act.put, List.setIfInBounds_toArray, List.set_cons_zero, List.set_cons_succ]
  refine wpAnyH_take (i := 8) (oi := { dst := some 40, op := Op.load 35 (Operand.tmp 3), type := 35, pos := "proof.go:16", after := #[{ on := 7, ground := Ground.guard }], guard := some (7, true) }) (v := undef) rfl (by kernel_rfl) (by kernel_rfl) (by kernel_rfl) (fun _ _ _ h => h) (Or.inr ⟨by rfl, rfl⟩) (by assumption) ?_
  try simp only [Act.put, List.setIfInBounds_toArray, List.set_cons_zero, List.set_cons_succ]
  refine wpAnyH_take (i := 9) (oi := { dst := some 41, op := Op.call { callee := Callee.value (Operand.func 57), args := #[Operand.tmp 40], argTypes := #[35] }, type := 4, pos := "proof.go:16", after := #[{ on := 8, ground := Ground.data }, { on := 7, ground := Ground.chain }, { on := 7, ground := Ground.guard }], guard := some (7, true) }) (v := undef) rfl (by kernel_rfl) (by kernel_rfl) (by kernel_rfl) (fun _ _ _ h => h) (Or.inr ⟨by rfl, rfl⟩) (by assumption) ?_
  try simp only [Act.put, List.setIfInBounds_toArray, List.set_cons_zero, List.set_cons_succ]
  refine wpAnyH_take (i := 10) (oi := { dst := some 42, op := Op.pick (Operand.tmp 39) (Operand.tmp 41) (Operand.const (Value.bool false)), type := 4, pos := "proof.go:16", after := #[{ on := 7, ground := Ground.data }, { on := 9, ground := Ground.data }], guard := none }) (v := ?vee11) rfl (by kernel_rfl) (by kernel_rfl) (by kernel_rfl) (fun _ _ _ h => h) (Or.inl ⟨by rfl, ?yee11⟩) (by assumption) ?ree11
  case yee11 => (intro w hSw; (try dsimp only at hSw); go_simp; (try with_reducible rfl))
  try simp only [Act.put, List.setIfInBounds_toArray, List.set_cons_zero, List.set_cons_succ]
  refine wpAnyH_take (i := 11) (oi := { dst := some 43, op := Op.move (Operand.tmp 42), type := 4, pos := "proof.go:16", after := #[{ on := 10, ground := Ground.data }, { on := 9, ground := Ground.chain }], guard := none }) (v := ?vee12) rfl (by kernel_rfl) (by kernel_rfl) (by kernel_rfl) (fun _ _ _ h => h) (Or.inl ⟨by rfl, ?yee12⟩) (by assumption) ?ree12
  case yee12 => (intro w hSw; (try dsimp only at hSw); go_simp; (try with_reducible rfl))
  try simp only [Act.put, List.setIfInBounds_toArray, List.set_cons_zero, List.set_cons_succ]
  refine wpAnyH_take (i := 12) (oi := { dst := some 44, op := Op.move (Operand.tmp 0), type := 22, pos := "proof.go:16", after := #[{ on := 11, ground := Ground.guard }], guard := some (11, true) }) (v := undef) rfl (by kernel_rfl) (by kernel_rfl) (by kernel_rfl) (fun _ _ _ h => h) (Or.inr ⟨by rfl, rfl⟩) (by assumption) ?_
  try simp only [Act.put, List.setIfInBounds_toArray, List.set_cons_zero, List.set_cons_succ]
  refine wpAnyH_take (i := 13) (oi := { dst := some 45, op := Op.load 35 (Operand.tmp 3), type := 35, pos := "proof.go:16", after := #[{ on := 11, ground := Ground.guard }], guard := some (11, true) }) (v := undef) rfl (by kernel_rfl) (by kernel_rfl) (by kernel_rfl) (fun _ _ _ h => h) (Or.inr ⟨by rfl, rfl⟩) (by assumption) ?_
  try simp only [Act.put, List.setIfInBounds_toArray, List.set_cons_zero, List.set_cons_succ]
  refine wpAnyH_take (i := 14) (oi := { dst := some 46, op := Op.call { callee := Callee.value (Operand.func 58), args := #[Operand.tmp 44, Operand.tmp 45], argTypes := #[22, 35] }, type := 4, pos := "proof.go:16", after := #[{ on := 12, ground := Ground.data }, { on := 13, ground := Ground.data }, { on := 11, ground := Ground.chain }, { on := 11, ground := Ground.guard }], guard := some (11, true) }) (v := undef) rfl (by kernel_rfl) (by kernel_rfl) (by kernel_rfl) (fun _ _ _ h => h) (Or.inr ⟨by rfl, rfl⟩) (by assumption) ?_
  try simp only [Act.put, List.setIfInBounds_toArray, List.set_cons_zero, List.set_cons_succ]
  refine wpAnyH_take (i := 15) (oi := { dst := some 47, op := Op.pick (Operand.tmp 43) (Operand.tmp 46) (Operand.const (Value.bool false)), type := 4, pos := "proof.go:16", after := #[{ on := 11, ground := Ground.data }, { on := 14, ground := Ground.data }], guard := none }) (v := ?vee16) rfl (by kernel_rfl) (by kernel_rfl) (by kernel_rfl) (fun _ _ _ h => h) (Or.inl ⟨by rfl, ?yee16⟩) (by assumption) ?ree16
  case yee16 => (intro w hSw; (try dsimp only at hSw); go_simp; (try with_reducible rfl))
  try simp only [Act.put, List.setIfInBounds_toArray, List.set_cons_zero, List.set_cons_succ]
  refine wpAnyH_take (i := 16) (oi := { dst := some 4, op := Op.assign (Operand.tmp 47), type := 4, pos := "proof.go:16", after := #[{ on := 15, ground := Ground.data }, { on := 14, ground := Ground.chain }, { on := 0, ground := Ground.phase }, { on := 1, ground := Ground.phase }, { on := 2, ground := Ground.phase }, { on := 3, ground := Ground.phase }, { on := 4, ground := Ground.phase }, { on := 5, ground := Ground.phase }, { on := 6, ground := Ground.phase }, { on := 7, ground := Ground.phase }, { on := 8, ground := Ground.phase }, { on := 9, ground := Ground.phase }, { on := 10, ground := Ground.phase }, { on := 11, ground := Ground.phase }, { on := 12, ground := Ground.phase }, { on := 13, ground := Ground.phase }, { on := 14, ground := Ground.phase }, { on := 15, ground := Ground.phase }], guard := none }) (v := ?vee17) rfl (by kernel_rfl) (by kernel_rfl) (by kernel_rfl) (fun _ _ _ h => h) (Or.inl ⟨by rfl, ?yee17⟩) (by assumption) ?ree17
  case yee17 => (intro w hSw; (try dsimp only at hSw); go_simp; (try with_reducible rfl))
  try simp only [Act.put, List.setIfInBounds_toArray, List.set_cons_zero, List.set_cons_succ]
  refine wpAnyH_take (i := 17) (oi := { dst := some 5, op := Op.assign (Operand.const (Value.int IntKind.i64 0)), type := 26, pos := "proof.go:16", after := #[{ on := 16, ground := Ground.chain }, { on := 0, ground := Ground.phase }, { on := 1, ground := Ground.phase }, { on := 2, ground := Ground.phase }, { on := 3, ground := Ground.phase }, { on := 4, ground := Ground.phase }, { on := 5, ground := Ground.phase }, { on := 6, ground := Ground.phase }, { on := 7, ground := Ground.phase }, { on := 8, ground := Ground.phase }, { on := 9, ground := Ground.phase }, { on := 10, ground := Ground.phase }, { on := 11, ground := Ground.phase }, { on := 12, ground := Ground.phase }, { on := 13, ground := Ground.phase }, { on := 14, ground := Ground.phase }, { on := 15, ground := Ground.phase }, { on := 16, ground := Ground.phase }], guard := none }) (v := ?vee18) rfl (by kernel_rfl) (by kernel_rfl) (by kernel_rfl) (fun _ _ _ h => h) (Or.inl ⟨by rfl, ?yee18⟩) (by assumption) ?ree18
  case yee18 => (intro w hSw; (try dsimp only at hSw); go_simp; (try with_reducible rfl))
  try simp only [Act.put, List.setIfInBounds_toArray, List.set_cons_zero, List.set_cons_succ]
  refine wpAnyH_done (by kernel_rfl) ?_ _
  go_wp2_with (fail)
  go_ret2
  exact ⟨hlW.trans (hW5.mono hlW.size), rfl⟩

set_option maxHeartbeats 8000000 in
set_option maxRecDepth 100000 in
theorem mproves_f (cA c0 c1 c2 n m L0 L1 L2 : Nat) (A A0 A1 A2 : Option Addr) (ls : List (List Int)) (l us vs : List Int) (cost : Int) (w : World) (T : Tab w.heap.size w A ls) (h0 : Ints w A0 l) (h1 : Ints w A1 us) (h2 : Ints w A2 vs)
    (G : Good n m ls) (d1 : 1 ≤ n) (d2 : n ≤ m) (d3 : m ≤ 64) (hchk : chkT ls = true) (hL0 : L0 = l.length) (hL1 : L1 = us.length) (hL2 : L2 = vs.length) (hI : IsAsg n m (cst ls) l) (hx : L1 = n) (hy : L2 = m) (hs : costN (cst ls) (colOf l) n = cost) (hC : ¬ ColsP m l vs) :
    Calls Try.prog 33 #[.slice A n cA, .agg #[.slice A0 L0 c0, .slice A1 L1 c1, .slice A2 L2 c2, .int .i64 cost]] w fun e w' => Below w.heap.size w w' ∧ e = .returned (.tuple #[.bool false, .int .i64 0]) := by
  obtain ⟨O, hO⟩ : ∃ O, O = Obj.cells #[.slice A0 L0 c0, .slice A1 L1 c1, .slice A2 L2 c2, .int .i64 cost] 35 := ⟨_, rfl⟩
  have hbx : Blk 35 (w.alloc O) w.heap.size [.slice A0 L0 c0, .slice A1 L1 c1, .slice A2 L2 c2, .int .i64 cost] := by rw [hO]; exact Blk.new w 35 _
  have hlW := below_new w O
  have T' := T.keep hlW
  have hck := check_any w.heap.size A cA n ls (w.alloc O) T' G.rows.symm
  have hce : ckE ls = 0 := by unfold ckE; rw [hchk]; rfl
  rw [hce] at hck
  have h0' := Vals.keep h0 hlW
  have h1' := Vals.keep h1 hlW
  have h2' := Vals.keep h2 hlW
  have hia : ∀ W, Below (w.alloc O).heap.size (w.alloc O) W → Calls Try.prog 48 #[.slice A n cA, .slice A0 L0 c0] W fun e w' => Below W.heap.size W w' ∧ e = .returned (.bool true) := fun W hW =>
    (isAsg_any w.heap.size n m cA c0 L0 A A0 ls l W (T'.keep (hW.mono hlW.size)) (Nat.le_trans hlW.size hW.size) G (Vals.keep h0' hW) hL0 d1 d2 d3).mono fun e w' h => ⟨h.1, by
      rcases h.2 with ⟨k, h⟩ | ⟨k, h⟩
      · exact h
      · exact absurd hI k⟩
  have hin : ∀ a, a < n → 0 ≤ l.getD a 0 ∧ l.getD a 0 < (m : Int) := fun a ha => by
    have p1 := hI.pos a ha
    have p2 := (hI.asg.ok a ha).1
    unfold colOf at p2
    exact ⟨p1, by omega⟩
  have hL0n : L0 = n := hL0.trans hI.len
  have hto : ∀ W, Below (w.alloc O).heap.size (w.alloc O) W → Calls Try.prog 49 #[.slice A n cA, .slice A0 L0 c0] W fun e w' => e = .returned (.int .i64 (costN (cst ls) (colOf l) n)) ∧ W = w' := fun W hW =>
    total_any w.heap.size n m cA c0 L0 A A0 ls l W (T'.keep (hW.mono hlW.size)) G (Vals.keep h0' hW) hL0 d1 d2 d3 hI
  have hco : ∀ W, Below (w.alloc O).heap.size (w.alloc O) W → Calls Try.prog 57 #[.agg #[.slice A0 L0 c0, .slice A1 L1 c1, .slice A2 L2 c2, .int .i64 cost]] W fun e w' => Below W.heap.size W w' ∧ e = .returned (.bool false) := fun W hW => by
    subst hy
    exact (cols_any L2 c0 c1 c2 L0 L1 A0 A1 A2 l vs _ W (Vals.keep h0' hW) (Vals.keep h2' hW) hL0 hL2 d3 (by omega) (fun a ha => hin a (by omega))).mono fun e w' h => ⟨h.1, by
      rcases h.2 with ⟨k, h⟩ | ⟨k, h⟩
      · exact absurd k hC
      · exact h⟩
  obtain ⟨g, off, Ai, ci, rfl, hg, hr0, -⟩ := G.at_ T' (i := 0) (by omega)
  have hr0' : (w.alloc O).cell? ⟨g, off, none⟩ = some (.slice Ai m ci) := hr0
  have hKP : ∀ W, Below (w.alloc O).heap.size (w.alloc O) W → W.cell? ⟨w.heap.size, 0, none⟩ = some (.slice A0 L0 c0) ∧ W.cell? ⟨w.heap.size, 1, none⟩ = some (.slice A1 L1 c1) ∧ W.cell? ⟨w.heap.size, 2, none⟩ = some (.slice A2 L2 c2) ∧ W.cell? ⟨w.heap.size, 3, none⟩ = some (.int .i64 cost) ∧ W.cell? ⟨g, off, none⟩ = some (.slice Ai m ci) := fun W h =>
    ⟨(hbx.keep h).cell 0, (hbx.keep h).cell 1, (hbx.keep h).cell 2, (hbx.keep h).cell 3, (h.cell (p := ⟨g, off, none⟩) (Nat.lt_of_lt_of_le hg hlW.size)).trans hr0'⟩
  obtain ⟨x0, x1, x2, x3, -⟩ := hKP _ (Below.refl _ _)
  have HIA := Lib.hid hia
  have HCK := Lib.hid hck
  have HKP := Lib.hid hKP
  have hnI : (0 : Int) < (n : Int) := by omega
  have hnN : 0 < n := by omega
  have hb1 : ((L1 : Int) != (n : Int)) = false := by simp; omega
  have hb2 : ((L2 : Int) != (m : Int)) = false := by simp; omega
  have HTO := Lib.hid hto
  have HCO := Lib.hid hco
  generalize costN (cst ls) (colOf l) n = sm at *
  have hb3 : (cost == sm) = true := by simp; exact hs.symm
  clear hbx h0 h1 h2 T T' hck hce hL0 hL1 hL2 hr0 hia G hKP hchk h0' h1' h2' hI hx hy hin hL0n hto hs hC hco
  subst hO
  go_enter Try.func33, Try.ntmps33
  go_wp2_with (go_at_call 25; refine (HCK.out).mono ?_; rintro e w1 ⟨rfl, rfl⟩)
  generalize w.alloc (Obj.cells #[.slice A0 L0 c0, .slice A1 L1 c1, .slice A2 L2 c2, .int .i64 cost] 35) = W at *
  have hWd : Below W.heap.size W W.drew := (Below.refl W.heap.size W).drew
  refine wp_region_held_drew (S := (fun w' => w'.cell? ⟨w.heap.size, 0, none⟩ = some (.slice A0 L0 c0) ∧ w'.cell? ⟨w.heap.size, 1, none⟩ = some (.slice A1 L1 c1) ∧ w'.cell? ⟨w.heap.size, 2, none⟩ = some (.slice A2 L2 c2) ∧ w'.cell? ⟨g, off, none⟩ = some (.slice Ai m ci))) (by kernel_rfl) ?_ (fun hHeld => ?_)
  · (try dsimp only); exact ⟨x0, x1, x2, hr0'⟩
  refine wpAnyH_take (i := 0) (oi := { dst := some 9, op := Op.move (Operand.tmp 0), type := 22, pos := "proof.go:13", after := #[], guard := none }) (v := ?vf1) rfl (by kernel_rfl) (by kernel_rfl) (by kernel_rfl) (fun _ _ _ h => h) (Or.inl ⟨by rfl, ?yf1⟩) (by assumption) ?rf1
  case yf1 => (intro w hSw; (try dsimp only at hSw); go_simp; (try with_reducible rfl))
  try simp only [Act.put, List.setIfInBounds_toArray, List.set_cons_zero, List.set_cons_succ]
  refine wpAnyH_take (i := 1) (oi := { dst := some 10, op := Op.fieldAddr 35 (Operand.tmp 3) 0, type := 0, pos := "proof.go:13", after := #[], guard := none }) (v := ?vf2) rfl (by kernel_rfl) (by kernel_rfl) (by kernel_rfl) (fun _ _ _ h => h) (Or.inl ⟨by rfl, ?yf2⟩) (by assumption) ?rf2
  case yf2 => (intro w hSw; (try dsimp only at hSw); go_simp; (try with_reducible rfl))
  try simp only [Act.put, List.setIfInBounds_toArray, List.set_cons_zero, List.set_cons_succ]
  refine wpAnyH_take (i := 2) (oi := { dst := some 11, op := Op.load 23 (Operand.tmp 10), type := 23, pos := "proof.go:13", after := #[{ on := 1, ground := Ground.data }], guard := none }) (v := ?vf3) rfl (by kernel_rfl) (by kernel_rfl) (by kernel_rfl) (fun _ _ _ h => h) (Or.inl ⟨by rfl, ?yf3⟩) (by assumption) ?rf3
  case yf3 => (intro w hSw; (try dsimp only at hSw); go_simp; (try with_reducible rfl))
  try simp only [Act.put, List.setIfInBounds_toArray, List.set_cons_zero, List.set_cons_succ]
  refine wpAnyH_ready (rs := [3]) (by kernel_rfl) (by simp) ?_
  refine AllReadyH.cons (o := { dst := some 12, op := Op.call { callee := Callee.value (Operand.func 48), args := #[Operand.tmp 9, Operand.tmp 11], argTypes := #[22, 23] }, type := 4, pos := "proof.go:13", after := #[{ on := 0, ground := Ground.data }, { on := 2, ground := Ground.data }], guard := none }) rfl (fun K hK => ?_) AllReadyH.nil
  go_simp; go_wp2_with (go_at_call 48; (with_reducible refine (HIA.out _ hWd).mono ?_); rintro e w5 ⟨hl5, rfl⟩; have hl5' := hWd.trans hl5; obtain ⟨k0, k1, k2, k3, k4⟩ := HKP.out w5 hl5')
  refine hK.out _ _ ?_ (fun hHeld => ?_)
  · (try dsimp only); exact ⟨k0, k1, k2, k4⟩
  clear hK K
  refine wpAnyH_take (i := 4) (oi := { dst := some 13, op := Op.unOp UnOp.not 4 (Operand.tmp 12), type := 4, pos := "proof.go:13", after := #[{ on := 3, ground := Ground.data }], guard := none }) (v := ?vf5) rfl (by kernel_rfl) (by kernel_rfl) (by kernel_rfl) (fun _ _ _ h => h) (Or.inl ⟨by rfl, ?yf5⟩) (by assumption) ?rf5
  case yf5 => (intro w hSw; (try dsimp only at hSw); go_simp; (try with_reducible rfl))
  try simp only [Act.put, List.setIfInBounds_toArray, List.set_cons_zero, List.set_cons_succ]
  refine wpAnyH_take (i := 5) (oi := { dst := some 14, op := Op.move (Operand.tmp 13), type := 4, pos := "proof.go:13", after := #[{ on := 4, ground := Ground.data }, { on := 3, ground := Ground.chain }], guard := none }) (v := ?vf6) rfl (by kernel_rfl) (by kernel_rfl) (by kernel_rfl) (fun _ _ _ h => h) (Or.inl ⟨by rfl, ?yf6⟩) (by assumption) ?rf6
  case yf6 => (intro w hSw; (try dsimp only at hSw); go_simp; (try with_reducible rfl))
  try simp only [Act.put, List.setIfInBounds_toArray, List.set_cons_zero, List.set_cons_succ]
  refine wpAnyH_take (i := 6) (oi := { dst := some 15, op := Op.fieldAddr 35 (Operand.tmp 3) 1, type := 0, pos := "proof.go:13", after := #[{ on := 5, ground := Ground.guard }], guard := some (5, false) }) (v := ?vf7) rfl (by kernel_rfl) (by kernel_rfl) (by kernel_rfl) (fun _ _ _ h => h) (Or.inl ⟨by rfl, ?yf7⟩) (by assumption) ?rf7
  case yf7 => (intro w hSw; (try dsimp only at hSw); go_simp; (try with_reducible rfl))
  try simp only [Act.put, List.setIfInBounds_toArray, List.set_cons_zero, List.set_cons_succ]
  refine wpAnyH_take (i := 7) (oi := { dst := some 16, op := Op.load 23 (Operand.tmp 15), type := 23, pos := "proof.go:13", after := #[{ on := 6, ground := Ground.data }, { on := 5, ground := Ground.guard }], guard := some (5, false) }) (v := ?vf8) rfl (by kernel_rfl) (by kernel_rfl) (by kernel_rfl) (fun _ _ _ h => h) (Or.inl ⟨by rfl, ?yf8⟩) (by assumption) ?rf8
  case yf8 => (intro w hSw; (try dsimp only at hSw); go_simp; (try with_reducible rfl))
  try simp only [Act.put, List.setIfInBounds_toArray, List.set_cons_zero, List.set_cons_succ]
  refine wpAnyH_take (i := 8) (oi := { dst := some 17, op := Op.call { callee := Callee.builtin Builtin.len, args := #[Operand.tmp 16], argTypes := #[23] }, type := 3, pos := "proof.go:13", after := #[{ on := 7, ground := Ground.data }, { on := 5, ground := Ground.guard }], guard := some (5, false) }) (v := ?vf9) rfl (by kernel_rfl) (by kernel_rfl) (by kernel_rfl) (fun _ _ _ h => h) (Or.inl ⟨by rfl, ?yf9⟩) (by assumption) ?rf9
  case yf9 => (intro w hSw; (try dsimp only at hSw); go_simp; (try with_reducible rfl))
  try simp only [Act.put, List.setIfInBounds_toArray, List.set_cons_zero, List.set_cons_succ]
  refine wpAnyH_take (i := 9) (oi := { dst := some 18, op := Op.move (Operand.tmp 0), type := 22, pos := "proof.go:13", after := #[{ on := 5, ground := Ground.guard }], guard := some (5, false) }) (v := ?vf10) rfl (by kernel_rfl) (by kernel_rfl) (by kernel_rfl) (fun _ _ _ h => h) (Or.inl ⟨by rfl, ?yf10⟩) (by assumption) ?rf10
  case yf10 => (intro w hSw; (try dsimp only at hSw); go_simp; (try with_reducible rfl))
  try simp only [Act.put, List.setIfInBounds_toArray, List.set_cons_zero, List.set_cons_succ]
  refine wpAnyH_take (i := 10) (oi := { dst := some 19, op := Op.call { callee := Callee.builtin Builtin.len, args := #[Operand.tmp 18], argTypes := #[22] }, type := 3, pos := "proof.go:13", after := #[{ on := 9, ground := Ground.data }, { on := 5, ground := Ground.guard }], guard := some (5, false) }) (v := ?vf11) rfl (by kernel_rfl) (by kernel_rfl) (by kernel_rfl) (fun _ _ _ h => h) (Or.inl ⟨by rfl, ?yf11⟩) (by assumption) ?rf11
  case yf11 => (intro w hSw; (try dsimp only at hSw); go_simp; (try with_reducible rfl))
  try simp only [Act.put, List.setIfInBounds_toArray, List.set_cons_zero, List.set_cons_succ]
  refine wpAnyH_take (i := 11) (oi := { dst := some 20, op := Op.binOp BinOp.neq 3 (Operand.tmp 17) (Operand.tmp 19) 3, type := 4, pos := "proof.go:13", after := #[{ on := 8, ground := Ground.data }, { on := 10, ground := Ground.data }, { on := 5, ground := Ground.guard }], guard := some (5, false) }) (v := ?vf12) rfl (by kernel_rfl) (by kernel_rfl) (by kernel_rfl) (fun _ _ _ h => h) (Or.inl ⟨by rfl, ?yf12⟩) (by assumption) ?rf12
  case yf12 => (intro w hSw; (try dsimp only at hSw); go_simp; (try with_reducible rfl))
  try simp only [Act.put, List.setIfInBounds_toArray, List.set_cons_zero, List.set_cons_succ]
  refine wpAnyH_take (i := 12) (oi := { dst := some 21, op := Op.pick (Operand.tmp 14) (Operand.const (Value.bool true)) (Operand.tmp 20), type := 4, pos := "proof.go:13", after := #[{ on := 5, ground := Ground.data }, { on := 11, ground := Ground.data }], guard := none }) (v := ?vf13) rfl (by kernel_rfl) (by kernel_rfl) (by kernel_rfl) (fun _ _ _ h => h) (Or.inl ⟨by rfl, ?yf13⟩) (by assumption) ?rf13
  case yf13 => (intro w hSw; (try dsimp only at hSw); go_simp; (try with_reducible rfl))
  try simp only [Act.put, List.setIfInBounds_toArray, List.set_cons_zero, List.set_cons_succ]
  refine wpAnyH_take (i := 13) (oi := { dst := some 22, op := Op.move (Operand.tmp 21), type := 4, pos := "proof.go:13", after := #[{ on := 12, ground := Ground.data }, { on := 5, ground := Ground.chain }], guard := none }) (v := ?vf14) rfl (by kernel_rfl) (by kernel_rfl) (by kernel_rfl) (fun _ _ _ h => h) (Or.inl ⟨by rfl, ?yf14⟩) (by assumption) ?rf14
  case yf14 => (intro w hSw; (try dsimp only at hSw); go_simp; (try with_reducible rfl))
  try simp only [Act.put, List.setIfInBounds_toArray, List.set_cons_zero, List.set_cons_succ]
  refine wpAnyH_take (i := 14) (oi := { dst := some 23, op := Op.fieldAddr 35 (Operand.tmp 3) 2, type := 0, pos := "proof.go:13", after := #[{ on := 13, ground := Ground.guard }], guard := some (13, false) }) (v := ?vf15) rfl (by kernel_rfl) (by kernel_rfl) (by kernel_rfl) (fun _ _ _ h => h) (Or.inl ⟨by rfl, ?yf15⟩) (by assumption) ?rf15
  case yf15 => (intro w hSw; (try dsimp only at hSw); go_simp; (try with_reducible rfl))
  try simp only [Act.put, List.setIfInBounds_toArray, List.set_cons_zero, List.set_cons_succ]
  refine wpAnyH_take (i := 15) (oi := { dst := some 24, op := Op.load 23 (Operand.tmp 23), type := 23, pos := "proof.go:13", after := #[{ on := 14, ground := Ground.data }, { on := 13, ground := Ground.guard }], guard := some (13, false) }) (v := ?vf16) rfl (by kernel_rfl) (by kernel_rfl) (by kernel_rfl) (fun _ _ _ h => h) (Or.inl ⟨by rfl, ?yf16⟩) (by assumption) ?rf16
  case yf16 => (intro w hSw; (try dsimp only at hSw); go_simp; (try with_reducible rfl))
  try simp only [Act.put, List.setIfInBounds_toArray, List.set_cons_zero, List.set_cons_succ]
  refine wpAnyH_take (i := 16) (oi := { dst := some 25, op := Op.call { callee := Callee.builtin Builtin.len, args := #[Operand.tmp 24], argTypes := #[23] }, type := 3, pos := "proof.go:13", after := #[{ on := 15, ground := Ground.data }, { on := 13, ground := Ground.guard }], guard := some (13, false) }) (v := ?vf17) rfl (by kernel_rfl) (by kernel_rfl) (by kernel_rfl) (fun _ _ _ h => h) (Or.inl ⟨by rfl, ?yf17⟩) (by assumption) ?rf17
  case yf17 => (intro w hSw; (try dsimp only at hSw); go_simp; (try with_reducible rfl))
  try simp only [Act.put, List.setIfInBounds_toArray, List.set_cons_zero, List.set_cons_succ]
  refine wpAnyH_take (i := 17) (oi := { dst := some 26, op := Op.move (Operand.tmp 0), type := 22, pos := "proof.go:13", after := #[{ on := 13, ground := Ground.guard }], guard := some (13, false) }) (v := ?vf18) rfl (by kernel_rfl) (by kernel_rfl) (by kernel_rfl) (fun _ _ _ h => h) (Or.inl ⟨by rfl, ?yf18⟩) (by assumption) ?rf18
  case yf18 => (intro w hSw; (try dsimp only at hSw); go_simp; (try with_reducible rfl))
  try simp only [Act.put, List.setIfInBounds_toArray, List.set_cons_zero, List.set_cons_succ]
  refine wpAnyH_take (i := 18) (oi := { dst := some 27, op := Op.indexAddr 22 (Operand.tmp 26) (Operand.const (Value.int IntKind.i64 0)), type := 0, pos := "proof.go:13", after := #[{ on := 17, ground := Ground.data }, { on := 13, ground := Ground.guard }], guard := some (13, false) }) (v := ?vf19) rfl (by kernel_rfl) (by kernel_rfl) (by kernel_rfl) (fun _ _ _ h => h) (Or.inl ⟨by rfl, ?yf19⟩) (by assumption) ?rf19
  case yf19 => (intro w hSw; (try dsimp only at hSw); go_simp; (try with_reducible rfl))
  try simp only [Act.put, List.setIfInBounds_toArray, List.set_cons_zero, List.set_cons_succ]
  refine wpAnyH_take (i := 19) (oi := { dst := some 28, op := Op.load 23 (Operand.tmp 27), type := 23, pos := "proof.go:13", after := #[{ on := 18, ground := Ground.data }, { on := 13, ground := Ground.guard }], guard := some (13, false) }) (v := ?vf20) rfl (by kernel_rfl) (by kernel_rfl) (by kernel_rfl) (fun _ _ _ h => h) (Or.inl ⟨by rfl, ?yf20⟩) (by assumption) ?rf20
  case yf20 => (intro w hSw; (try dsimp only at hSw); go_simp; (try with_reducible rfl))
  try simp only [Act.put, List.setIfInBounds_toArray, List.set_cons_zero, List.set_cons_succ]
  refine wpAnyH_take (i := 20) (oi := { dst := some 29, op := Op.call { callee := Callee.builtin Builtin.len, args := #[Operand.tmp 28], argTypes := #[23] }, type := 3, pos := "proof.go:13", after := #[{ on := 19, ground := Ground.data }, { on := 13, ground := Ground.guard }], guard := some (13, false) }) (v := ?vf21) rfl (by kernel_rfl) (by kernel_rfl) (by kernel_rfl) (fun _ _ _ h => h) (Or.inl ⟨by rfl, ?yf21⟩) (by assumption) ?rf21
  case yf21 => (intro w hSw; (try dsimp only at hSw); go_simp; (try with_reducible rfl))
  try simp only [Act.put, List.setIfInBounds_toArray, List.set_cons_zero, List.set_cons_succ]
  refine wpAnyH_take (i := 21) (oi := { dst := some 30, op := Op.binOp BinOp.neq 3 (Operand.tmp 25) (Operand.tmp 29) 3, type := 4, pos := "proof.go:13", after := #[{ on := 16, ground := Ground.data }, { on := 20, ground := Ground.data }, { on := 13, ground := Ground.guard }], guard := some (13, false) }) (v := ?vf22) rfl (by kernel_rfl) (by kernel_rfl) (by kernel_rfl) (fun _ _ _ h => h) (Or.inl ⟨by rfl, ?yf22⟩) (by assumption) ?rf22
  case yf22 => (intro w hSw; (try dsimp only at hSw); go_simp; (try with_reducible rfl))
  try simp only [Act.put, List.setIfInBounds_toArray, List.set_cons_zero, List.set_cons_succ]
  refine wpAnyH_take (i := 22) (oi := { dst := some 31, op := Op.pick (Operand.tmp 22) (Operand.const (Value.bool true)) (Operand.tmp 30), type := 4, pos := "proof.go:13", after := #[{ on := 13, ground := Ground.data }, { on := 21, ground := Ground.data }], guard := none }) (v := ?vf23) rfl (by kernel_rfl) (by kernel_rfl) (by kernel_rfl) (fun _ _ _ h => h) (Or.inl ⟨by rfl, ?yf23⟩) (by assumption) ?rf23
  case yf23 => (intro w hSw; (try dsimp only at hSw); go_simp; (try with_reducible rfl))
  try simp only [Act.put, List.setIfInBounds_toArray, List.set_cons_zero, List.set_cons_succ]
  refine wpAnyH_done (by kernel_rfl) ?_ _
  clear x0 x1 x2 x3 hr0'
  have hW5 : Below W.heap.size W w5.drew := hl5'.drew
  go_wp2_with (fail)
  refine wp_region_held_drew (S := (fun w' => w'.cell? ⟨w.heap.size, 0, none⟩ = some (.slice A0 L0 c0) ∧ w'.cell? ⟨w.heap.size, 1, none⟩ = some (.slice A1 L1 c1) ∧ w'.cell? ⟨w.heap.size, 2, none⟩ = some (.slice A2 L2 c2) ∧ w'.cell? ⟨w.heap.size, 3, none⟩ = some (.int .i64 cost))) (by kernel_rfl) ?_ (fun hHeld => ?_)
  · (try dsimp only); exact ⟨k0, k1, k2, k3⟩
  refine wpAnyH_take (i := 0) (oi := { dst := some 32, op := Op.fieldAddr 35 (Operand.tmp 3) 3, type := 0, pos := "proof.go:16", after := #[], guard := none }) (v := ?vff1) rfl (by kernel_rfl) (by kernel_rfl) (by kernel_rfl) (fun _ _ _ h => h) (Or.inl ⟨by rfl, ?yff1⟩) (by assumption) ?rff1
  case yff1 => (intro w hSw; (try dsimp only at hSw); go_simp; (try with_reducible rfl))
  try simp only [Act.put, List.setIfInBounds_toArray, List.set_cons_zero, List.set_cons_succ]
  refine wpAnyH_take (i := 1) (oi := { dst := some 33, op := Op.load 3 (Operand.tmp 32), type := 3, pos := "proof.go:16", after := #[{ on := 0, ground := Ground.data }], guard := none }) (v := ?vff2) rfl (by kernel_rfl) (by kernel_rfl) (by kernel_rfl) (fun _ _ _ h => h) (Or.inl ⟨by rfl, ?yff2⟩) (by assumption) ?rff2
  case yff2 => (intro w hSw; (try dsimp only at hSw); go_simp; (try with_reducible rfl))
  try simp only [Act.put, List.setIfInBounds_toArray, List.set_cons_zero, List.set_cons_succ]
  refine wpAnyH_take (i := 2) (oi := { dst := some 34, op := Op.move (Operand.tmp 0), type := 22, pos := "proof.go:16", after := #[], guard := none }) (v := ?vff3) rfl (by kernel_rfl) (by kernel_rfl) (by kernel_rfl) (fun _ _ _ h => h) (Or.inl ⟨by rfl, ?yff3⟩) (by assumption) ?rff3
  case yff3 => (intro w hSw; (try dsimp only at hSw); go_simp; (try with_reducible rfl))
  try simp only [Act.put, List.setIfInBounds_toArray, List.set_cons_zero, List.set_cons_succ]
  refine wpAnyH_take (i := 3) (oi := { dst := some 35, op := Op.fieldAddr 35 (Operand.tmp 3) 0, type := 0, pos := "proof.go:16", after := #[], guard := none }) (v := ?vff4) rfl (by kernel_rfl) (by kernel_rfl) (by kernel_rfl) (fun _ _ _ h => h) (Or.inl ⟨by rfl, ?yff4⟩) (by assumption) ?rff4
  case yff4 => (intro w hSw; (try dsimp only at hSw); go_simp; (try with_reducible rfl))
  try simp only [Act.put, List.setIfInBounds_toArray, List.set_cons_zero, List.set_cons_succ]
  refine wpAnyH_take (i := 4) (oi := { dst := some 36, op := Op.load 23 (Operand.tmp 35), type := 23, pos := "proof.go:16", after := #[{ on := 3, ground := Ground.data }], guard := none }) (v := ?vff5) rfl (by kernel_rfl) (by kernel_rfl) (by kernel_rfl) (fun _ _ _ h => h) (Or.inl ⟨by rfl, ?yff5⟩) (by assumption) ?rff5
  case yff5 => (intro w hSw; (try dsimp only at hSw); go_simp; (try with_reducible rfl))
  try simp only [Act.put, List.setIfInBounds_toArray, List.set_cons_zero, List.set_cons_succ]
  refine wpAnyH_ready (rs := [5]) (by kernel_rfl) (by simp) ?_
  refine AllReadyH.cons (o := { dst := some 37, op := Op.call { callee := Callee.value (Operand.func 49), args := #[Operand.tmp 34, Operand.tmp 36], argTypes := #[22, 23] }, type := 3, pos := "proof.go:16", after := #[{ on := 2, ground := Ground.data }, { on := 4, ground := Ground.data }], guard := none }) rfl (fun K hK => ?_) AllReadyH.nil
  go_simp; go_wp2_with (go_at_call 49; (with_reducible refine (HTO.out _ hW5).mono ?_); rintro e w6 ⟨rfl, rfl⟩)
  refine hK.out _ _ ?_ (fun hHeld => ?_)
  · (try dsimp only); first | exact ⟨i0, i1, i2, i3⟩ | exact ⟨j0, j1, j2, j3⟩ | exact ⟨k0, k1, k2, k3⟩
  clear hK K
  refine wpAnyH_take (i := 6) (oi := { dst := some 38, op := Op.binOp BinOp.eql 3 (Operand.tmp 33) (Operand.tmp 37) 3, type := 4, pos := "proof.go:16", after := #[{ on := 1, ground := Ground.data }, { on := 5, ground := Ground.data }], guard := none }) (v := ?vff7) rfl (by kernel_rfl) (by kernel_rfl) (by kernel_rfl) (fun _ _ _ h => h) (Or.inl ⟨by rfl, ?yff7⟩) (by assumption) ?rff7
  case yff7 => (intro w hSw; (try dsimp only at hSw); go_simp; (try with_reducible rfl))
  try simp only [Act.put, List.setIfInBounds_toArray, List.set_cons_zero, List.set_cons_succ]
  refine wpAnyH_take (i := 7) (oi := { dst := some 39, op := Op.move (Operand.tmp 38), type := 4, pos := "proof.go:16", after := #[{ on := 6, ground := Ground.data }, { on := 5, ground := Ground.chain }], guard := none }) (v := ?vff8) rfl (by kernel_rfl) (by kernel_rfl) (by kernel_rfl) (fun _ _ _ h => h) (Or.inl ⟨by rfl, ?yff8⟩) (by assumption) ?rff8
  case yff8 => (intro w hSw; (try dsimp only at hSw); go_simp; (try with_reducible rfl))
  try simp only [Act.put, List.setIfInBounds_toArray, List.set_cons_zero, List.set_cons_succ]
  refine wpAnyH_take (i := 8) (oi := { dst := some 40, op := Op.load 35 (Operand.tmp 3), type := 35, pos := "proof.go:16", after := #[{ on := 7, ground := Ground.guard }], guard := some (7, true) }) (v := ?vff9) rfl (by kernel_rfl) (by kernel_rfl) (by kernel_rfl) (fun _ _ _ h => h) (Or.inl ⟨by rfl, ?yff9⟩) (by assumption) ?rff9
  case yff9 => (intro w hSw; (try dsimp only at hSw); go_simp; (try with_reducible rfl))
  try simp only [Act.put, List.setIfInBounds_toArray, List.set_cons_zero, List.set_cons_succ]
  refine wpAnyH_ready (rs := [9]) (by kernel_rfl) (by simp) ?_
  refine AllReadyH.cons (o := { dst := some 41, op := Op.call { callee := Callee.value (Operand.func 57), args := #[Operand.tmp 40], argTypes := #[35] }, type := 4, pos := "proof.go:16", after := #[{ on := 8, ground := Ground.data }, { on := 7, ground := Ground.chain }, { on := 7, ground := Ground.guard }], guard := some (7, true) }) rfl (fun K hK => ?_) AllReadyH.nil
  go_simp; go_wp2_with (go_at_call 57; (with_reducible refine (HCO.out _ hW5).mono ?_); rintro e w7 ⟨hl7, rfl⟩; have hW7 := hW5.trans (hl7.mono hW5.size); obtain ⟨j0, j1, j2, j3, j4⟩ := HKP.out w7 hW7)
  refine hK.out _ _ ?_ (fun hHeld => ?_)
  · (try dsimp only); first | exact ⟨i0, i1, i2, i3⟩ | exact ⟨j0, j1, j2, j3⟩ | exact ⟨k0, k1, k2, k3⟩
  clear hK K
  refine wpAnyH_take (i := 10) (oi := { dst := some 42, op := Op.pick (Operand.tmp 39) (Operand.tmp 41) (Operand.const (Value.bool false)), type := 4, pos := "proof.go:16", after := #[{ on := 7, ground := Ground.data }, { on := 9, ground := Ground.data }], guard := none }) (v := ?vff11) rfl (by kernel_rfl) (by kernel_rfl) (by kernel_rfl) (fun _ _ _ h => h) (Or.inl ⟨by rfl, ?yff11⟩) (by assumption) ?rff11
  case yff11 => (intro w hSw; (try dsimp only at hSw); go_simp; (try with_reducible rfl))
  try simp only [Act.put, List.setIfInBounds_toArray, List.set_cons_zero, List.set_cons_succ]
  refine wpAnyH_take (i := 11) (oi := { dst := some 43, op := Op.move (Operand.tmp 42), type := 4, pos := "proof.go:16", after := #[{ on := 10, ground := Ground.data }, { on := 9, ground := Ground.chain }], guard := none }) (v := ?vff12) rfl (by kernel_rfl) (by kernel_rfl) (by kernel_rfl) (fun _ _ _ h => h) (Or.inl ⟨by rfl, ?yff12⟩) (by assumption) ?rff12
  case yff12 => (intro w hSw; (try dsimp only at hSw); go_simp; (try with_reducible rfl))
  try simp only [Act.put, List.setIfInBounds_toArray, List.set_cons_zero, List.set_cons_succ]
  refine wpAnyH_take (i := 12) (oi := { dst := some 44, op := Op.move (Operand.tmp 0), type := 22, pos := "proof.go:16", after := #[{ on := 11, ground := Ground.guard }], guard := some (11, true) }) (v := undef) rfl (by kernel_rfl) (by kernel_rfl) (by kernel_rfl) (fun _ _ _ h => h) (Or.inr ⟨by rfl, rfl⟩) (by assumption) ?_
  try simp only [Act.put, List.setIfInBounds_toArray, List.set_cons_zero, List.set_cons_succ]
  refine wpAnyH_take (i := 13) (oi := { dst := some 45, op := Op.load 35 (Operand.tmp 3), type := 35, pos := "proof.go:16", after := #[{ on := 11, ground := Ground.guard }], guard := some (11, true) }) (v := undef) rfl (by kernel_rfl) (by kernel_rfl) (by kernel_rfl) (fun _ _ _ h => h) (Or.inr ⟨by rfl, rfl⟩) (by assumption) ?_
  try simp only [Act.put, List.setIfInBounds_toArray, List.set_cons_zero, List.set_cons_succ]
  refine wpAnyH_take (i := 14) (oi := { dst := some 46, op := Op.call { callee := Callee.value (Operand.func 58), args := #[Operand.tmp 44, Operand.tmp 45], argTypes := #[22, 35] }, type := 4, pos := "proof.go:16", after := #[{ on := 12, ground := Ground.data }, { on := 13, ground := Ground.data }, { on := 11, ground := Ground.chain }, { on := 11, ground := Ground.guard }], guard := some (11, true) }) (v := undef) rfl (by kernel_rfl) (by kernel_rfl) (by kernel_rfl) (fun _ _ _ h => h) (Or.inr ⟨by rfl, rfl⟩) (by assumption) ?_
  try simp only [Act.put, List.setIfInBounds_toArray, List.set_cons_zero, List.set_cons_succ]
  refine wpAnyH_take (i := 15) (oi := { dst := some 47, op := Op.pick (Operand.tmp 43) (Operand.tmp 46) (Operand.const (Value.bool false)), type := 4, pos := "proof.go:16", after := #[{ on := 11, ground := Ground.data }, { on := 14, ground := Ground.data }], guard := none }) (v := ?vff16) rfl (by kernel_rfl) (by kernel_rfl) (by kernel_rfl) (fun _ _ _ h => h) (Or.inl ⟨by rfl, ?yff16⟩) (by assumption) ?rff16
  case yff16 => (intro w hSw; (try dsimp only at hSw); go_simp; (try with_reducible rfl))
  try simp only [Act.put, List.setIfInBounds_toArray, List.set_cons_zero, List.set_cons_succ]
  refine wpAnyH_take (i := 16) (oi := { dst := some 4, op := Op.assign (Operand.tmp 47), type := 4, pos := "proof.go:16", after := #[{ on := 15, ground := Ground.data }, { on := 14, ground := Ground.chain }, { on := 0, ground := Ground.phase }, { on := 1, ground := Ground.phase }, { on := 2, ground := Ground.phase }, { on := 3, ground := Ground.phase }, { on := 4, ground := Ground.phase }, { on := 5, ground := Ground.phase }, { on := 6, ground := Ground.phase }, { on := 7, ground := Ground.phase }, { on := 8, ground := Ground.phase }, { on := 9, ground := Ground.phase }, { on := 10, ground := Ground.phase }, { on := 11, ground := Ground.phase }, { on := 12, ground := Ground.phase }, { on := 13, ground := Ground.phase }, { on := 14, ground := Ground.phase }, { on := 15, ground := Ground.phase }], guard := none }) (v := ?vff17) rfl (by kernel_rfl) (by kernel_rfl) (by kernel_rfl) (fun _ _ _ h => h) (Or.inl ⟨by rfl, ?yff17⟩) (by assumption) ?rff17
  case yff17 => (intro w hSw; (try dsimp only at hSw); go_simp; (try with_reducible rfl))
  try simp only [Act.put, List.setIfInBounds_toArray, List.set_cons_zero, List.set_cons_succ]
  refine wpAnyH_take (i := 17) (oi := { dst := some 5, op := Op.assign (Operand.const (Value.int IntKind.i64 0)), type := 26, pos := "proof.go:16", after := #[{ on := 16, ground := Ground.chain }, { on := 0, ground := Ground.phase }, { on := 1, ground := Ground.phase }, { on := 2, ground := Ground.phase }, { on := 3, ground := Ground.phase }, { on := 4, ground := Ground.phase }, { on := 5, ground := Ground.phase }, { on := 6, ground := Ground.phase }, { on := 7, ground := Ground.phase }, { on := 8, ground := Ground.phase }, { on := 9, ground := Ground.phase }, { on := 10, ground := Ground.phase }, { on := 11, ground := Ground.phase }, { on := 12, ground := Ground.phase }, { on := 13, ground := Ground.phase }, { on := 14, ground := Ground.phase }, { on := 15, ground := Ground.phase }, { on := 16, ground := Ground.phase }], guard := none }) (v := ?vff18) rfl (by kernel_rfl) (by kernel_rfl) (by kernel_rfl) (fun _ _ _ h => h) (Or.inl ⟨by rfl, ?yff18⟩) (by assumption) ?rff18
  case yff18 => (intro w hSw; (try dsimp only at hSw); go_simp; (try with_reducible rfl))
  try simp only [Act.put, List.setIfInBounds_toArray, List.set_cons_zero, List.set_cons_succ]
  refine wpAnyH_done (by kernel_rfl) ?_ _
  go_wp2_with (fail)
  go_ret2
  exact ⟨hlW.trans (hW7.mono hlW.size), rfl⟩

set_option maxHeartbeats 8000000 in
set_option maxRecDepth 100000 in
theorem mproves_g (cA c0 c1 c2 n m L0 L1 L2 : Nat) (A A0 A1 A2 : Option Addr) (ls : List (List Int)) (l us vs : List Int) (cost : Int) (w : World) (T : Tab w.heap.size w A ls) (h0 : Ints w A0 l) (h1 : Ints w A1 us) (h2 : Ints w A2 vs)
    (G : Good n m ls) (d1 : 1 ≤ n) (d2 : n ≤ m) (d3 : m ≤ 64) (hchk : chkT ls = true) (hL0 : L0 = l.length) (hL1 : L1 = us.length) (hL2 : L2 = vs.length) (hI : IsAsg n m (cst ls) l) (hx : L1 = n) (hy : L2 = m) (hs : costN (cst ls) (colOf l) n = cost) (hC : ColsP m l vs) (hR : ¬ RowsP n m (cst ls) l us vs) :
    Calls Try.prog 33 #[.slice A n cA, .agg #[.slice A0 L0 c0, .slice A1 L1 c1, .slice A2 L2 c2, .int .i64 cost]] w fun e w' => Below w.heap.size w w' ∧ e = .returned (.tuple #[.bool false, .int .i64 0]) := by
  obtain ⟨O, hO⟩ : ∃ O, O = Obj.cells #[.slice A0 L0 c0, .slice A1 L1 c1, .slice A2 L2 c2, .int .i64 cost] 35 := ⟨_, rfl⟩
  have hbx : Blk 35 (w.alloc O) w.heap.size [.slice A0 L0 c0, .slice A1 L1 c1, .slice A2 L2 c2, .int .i64 cost] := by rw [hO]; exact Blk.new w 35 _
  have hlW := below_new w O
  have T' := T.keep hlW
  have hck := check_any w.heap.size A cA n ls (w.alloc O) T' G.rows.symm
  have hce : ckE ls = 0 := by unfold ckE; rw [hchk]; rfl
  rw [hce] at hck
  have h0' := Vals.keep h0 hlW
  have h1' := Vals.keep h1 hlW
  have h2' := Vals.keep h2 hlW
  have hia : ∀ W, Below (w.alloc O).heap.size (w.alloc O) W → Calls Try.prog 48 #[.slice A n cA, .slice A0 L0 c0] W fun e w' => Below W.heap.size W w' ∧ e = .returned (.bool true) := fun W hW =>
    (isAsg_any w.heap.size n m cA c0 L0 A A0 ls l W (T'.keep (hW.mono hlW.size)) (Nat.le_trans hlW.size hW.size) G (Vals.keep h0' hW) hL0 d1 d2 d3).mono fun e w' h => ⟨h.1, by
      rcases h.2 with ⟨k, h⟩ | ⟨k, h⟩
      · exact h
      · exact absurd hI k⟩
  have hin : ∀ a, a < n → 0 ≤ l.getD a 0 ∧ l.getD a 0 < (m : Int) := fun a ha => by
    have p1 := hI.pos a ha
    have p2 := (hI.asg.ok a ha).1
    unfold colOf at p2
    exact ⟨p1, by omega⟩
  have hL0n : L0 = n := hL0.trans hI.len
  have hto : ∀ W, Below (w.alloc O).heap.size (w.alloc O) W → Calls Try.prog 49 #[.slice A n cA, .slice A0 L0 c0] W fun e w' => e = .returned (.int .i64 (costN (cst ls) (colOf l) n)) ∧ W = w' := fun W hW =>
    total_any w.heap.size n m cA c0 L0 A A0 ls l W (T'.keep (hW.mono hlW.size)) G (Vals.keep h0' hW) hL0 d1 d2 d3 hI
  have hco : ∀ W, Below (w.alloc O).heap.size (w.alloc O) W → Calls Try.prog 57 #[.agg #[.slice A0 L0 c0, .slice A1 L1 c1, .slice A2 L2 c2, .int .i64 cost]] W fun e w' => Below W.heap.size W w' ∧ e = .returned (.bool true) := fun W hW => by
    subst hy
    exact (cols_any L2 c0 c1 c2 L0 L1 A0 A1 A2 l vs _ W (Vals.keep h0' hW) (Vals.keep h2' hW) hL0 hL2 d3 (by omega) (fun a ha => hin a (by omega))).mono fun e w' h => ⟨h.1, by
      rcases h.2 with ⟨k, h⟩ | ⟨k, h⟩
      · exact h
      · exact absurd hC k⟩
  have hv : ∀ k, k < m → -2000000000000000000 ≤ vs.getD k 0 ∧ vs.getD k 0 ≤ 0 := fun k hk => inB_t (hC k hk).1
  have hro : ∀ W, Below (w.alloc O).heap.size (w.alloc O) W → Calls Try.prog 58 #[.slice A n cA, .agg #[.slice A0 L0 c0, .slice A1 L1 c1, .slice A2 L2 c2, .int .i64 cost]] W fun e w' => Below W.heap.size W w' ∧ e = .returned (.bool false) := fun W hW => by
    subst hL0n
    subst hx
    subst hy
    exact (rows_any w.heap.size L1 L2 cA c0 c1 c2 A A0 A1 A2 ls l us vs _ W (T'.keep (hW.mono hlW.size)) (Nat.le_trans hlW.size hW.size) G (Vals.keep h0' hW) (Vals.keep h1' hW) (Vals.keep h2' hW) hL1 hL2 hL0 d1 d2 d3 hin hv).mono fun e w' h => ⟨h.1, by
      rcases h.2 with ⟨k, h⟩ | ⟨k, h⟩
      · exact absurd k hR
      · exact h⟩
  obtain ⟨g, off, Ai, ci, rfl, hg, hr0, -⟩ := G.at_ T' (i := 0) (by omega)
  have hr0' : (w.alloc O).cell? ⟨g, off, none⟩ = some (.slice Ai m ci) := hr0
  have hKP : ∀ W, Below (w.alloc O).heap.size (w.alloc O) W → W.cell? ⟨w.heap.size, 0, none⟩ = some (.slice A0 L0 c0) ∧ W.cell? ⟨w.heap.size, 1, none⟩ = some (.slice A1 L1 c1) ∧ W.cell? ⟨w.heap.size, 2, none⟩ = some (.slice A2 L2 c2) ∧ W.cell? ⟨w.heap.size, 3, none⟩ = some (.int .i64 cost) ∧ W.cell? ⟨g, off, none⟩ = some (.slice Ai m ci) := fun W h =>
    ⟨(hbx.keep h).cell 0, (hbx.keep h).cell 1, (hbx.keep h).cell 2, (hbx.keep h).cell 3, (h.cell (p := ⟨g, off, none⟩) (Nat.lt_of_lt_of_le hg hlW.size)).trans hr0'⟩
  obtain ⟨x0, x1, x2, x3, -⟩ := hKP _ (Below.refl _ _)
  have HIA := Lib.hid hia
  have HCK := Lib.hid hck
  have HKP := Lib.hid hKP
  have hnI : (0 : Int) < (n : Int) := by omega
  have hnN : 0 < n := by omega
  have hb1 : ((L1 : Int) != (n : Int)) = false := by simp; omega
  have hb2 : ((L2 : Int) != (m : Int)) = false := by simp; omega
  have HTO := Lib.hid hto
  have HCO := Lib.hid hco
  have HRO := Lib.hid hro
  generalize costN (cst ls) (colOf l) n = sm at *
  have hb3 : (cost == sm) = true := by simp; exact hs.symm
  clear hbx h0 h1 h2 T T' hck hce hL0 hL1 hL2 hr0 hia G hKP hchk h0' h1' h2' hI hx hy hin hL0n hto hs hC hco hv hro hR
  subst hO
  go_enter Try.func33, Try.ntmps33
  go_wp2_with (go_at_call 25; refine (HCK.out).mono ?_; rintro e w1 ⟨rfl, rfl⟩)
  generalize w.alloc (Obj.cells #[.slice A0 L0 c0, .slice A1 L1 c1, .slice A2 L2 c2, .int .i64 cost] 35) = W at *
  have hWd : Below W.heap.size W W.drew := (Below.refl W.heap.size W).drew
  refine wp_region_held_drew (S := (fun w' => w'.cell? ⟨w.heap.size, 0, none⟩ = some (.slice A0 L0 c0) ∧ w'.cell? ⟨w.heap.size, 1, none⟩ = some (.slice A1 L1 c1) ∧ w'.cell? ⟨w.heap.size, 2, none⟩ = some (.slice A2 L2 c2) ∧ w'.cell? ⟨g, off, none⟩ = some (.slice Ai m ci))) (by kernel_rfl) ?_ (fun hHeld => ?_)
  · (try dsimp only); exact ⟨x0, x1, x2, hr0'⟩
  refine wpAnyH_take (i := 0) (oi := { dst := some 9, op := Op.move (Operand.tmp 0), type := 22, pos := "proof.go:13", after := #[], guard := none }) (v := ?vg1) rfl (by kernel_rfl) (by kernel_rfl) (by kernel_rfl) (fun _ _ _ h => h) (Or.inl ⟨by rfl, ?yg1⟩) (by assumption) ?rg1
  case yg1 => (intro w hSw; (try dsimp only at hSw); go_simp; (try with_reducible rfl))
  try simp only [Act.put, List.setIfInBounds_toArray, List.set_cons_zero, List.set_cons_succ]
  refine wpAnyH_take (i := 1) (oi := { dst := some 10, op := Op.fieldAddr 35 (Operand.tmp 3) 0, type := 0, pos := "proof.go:13", after := #[], guard := none }) (v := ?vg2) rfl (by kernel_rfl) (by kernel_rfl) (by kernel_rfl) (fun _ _ _ h => h) (Or.inl ⟨by rfl, ?yg2⟩) (by assumption) ?rg2
  case yg2 => (intro w hSw; (try dsimp only at hSw); go_simp; (try with_reducible rfl))
  try simp only [Act.put, List.setIfInBounds_toArray, List.set_cons_zero, List.set_cons_succ]
  refine wpAnyH_take (i := 2) (oi := { dst := some 11, op := Op.load 23 (Operand.tmp 10), type := 23, pos := "proof.go:13", after := #[{ on := 1, ground := Ground.data }], guard := none }) (v := ?vg3) rfl (by kernel_rfl) (by kernel_rfl) (by kernel_rfl) (fun _ _ _ h => h) (Or.inl ⟨by rfl, ?yg3⟩) (by assumption) ?rg3
  case yg3 => (intro w hSw; (try dsimp only at hSw); go_simp; (try with_reducible rfl))
  try simp only [Act.put, List.setIfInBounds_toArray, List.set_cons_zero, List.set_cons_succ]
  refine wpAnyH_ready (rs := [3]) (by kernel_rfl) (by simp) ?_
  refine AllReadyH.cons (o := { dst := some 12, op := Op.call { callee := Callee.value (Operand.func 48), args := #[Operand.tmp 9, Operand.tmp 11], argTypes := #[22, 23] }, type := 4, pos := "proof.go:13", after := #[{ on := 0, ground := Ground.data }, { on := 2, ground := Ground.data }], guard := none }) rfl (fun K hK => ?_) AllReadyH.nil
  go_simp; go_wp2_with (go_at_call 48; (with_reducible refine (HIA.out _ hWd).mono ?_); rintro e w5 ⟨hl5, rfl⟩; have hl5' := hWd.trans hl5; obtain ⟨k0, k1, k2, k3, k4⟩ := HKP.out w5 hl5')
  refine hK.out _ _ ?_ (fun hHeld => ?_)
  · (try dsimp only); exact ⟨k0, k1, k2, k4⟩
  clear hK K
  refine wpAnyH_take (i := 4) (oi := { dst := some 13, op := Op.unOp UnOp.not 4 (Operand.tmp 12), type := 4, pos := "proof.go:13", after := #[{ on := 3, ground := Ground.data }], guard := none }) (v := ?vg5) rfl (by kernel_rfl) (by kernel_rfl) (by kernel_rfl) (fun _ _ _ h => h) (Or.inl ⟨by rfl, ?yg5⟩) (by assumption) ?rg5
  case yg5 => (intro w hSw; (try dsimp only at hSw); go_simp; (try with_reducible rfl))
  try simp only [Act.put, List.setIfInBounds_toArray, List.set_cons_zero, List.set_cons_succ]
  refine wpAnyH_take (i := 5) (oi := { dst := some 14, op := Op.move (Operand.tmp 13), type := 4, pos := "proof.go:13", after := #[{ on := 4, ground := Ground.data }, { on := 3, ground := Ground.chain }], guard := none }) (v := ?vg6) rfl (by kernel_rfl) (by kernel_rfl) (by kernel_rfl) (fun _ _ _ h => h) (Or.inl ⟨by rfl, ?yg6⟩) (by assumption) ?rg6
  case yg6 => (intro w hSw; (try dsimp only at hSw); go_simp; (try with_reducible rfl))
  try simp only [Act.put, List.setIfInBounds_toArray, List.set_cons_zero, List.set_cons_succ]
  refine wpAnyH_take (i := 6) (oi := { dst := some 15, op := Op.fieldAddr 35 (Operand.tmp 3) 1, type := 0, pos := "proof.go:13", after := #[{ on := 5, ground := Ground.guard }], guard := some (5, false) }) (v := ?vg7) rfl (by kernel_rfl) (by kernel_rfl) (by kernel_rfl) (fun _ _ _ h => h) (Or.inl ⟨by rfl, ?yg7⟩) (by assumption) ?rg7
  case yg7 => (intro w hSw; (try dsimp only at hSw); go_simp; (try with_reducible rfl))
  try simp only [Act.put, List.setIfInBounds_toArray, List.set_cons_zero, List.set_cons_succ]
  refine wpAnyH_take (i := 7) (oi := { dst := some 16, op := Op.load 23 (Operand.tmp 15), type := 23, pos := "proof.go:13", after := #[{ on := 6, ground := Ground.data }, { on := 5, ground := Ground.guard }], guard := some (5, false) }) (v := ?vg8) rfl (by kernel_rfl) (by kernel_rfl) (by kernel_rfl) (fun _ _ _ h => h) (Or.inl ⟨by rfl, ?yg8⟩) (by assumption) ?rg8
  case yg8 => (intro w hSw; (try dsimp only at hSw); go_simp; (try with_reducible rfl))
  try simp only [Act.put, List.setIfInBounds_toArray, List.set_cons_zero, List.set_cons_succ]
  refine wpAnyH_take (i := 8) (oi := { dst := some 17, op := Op.call { callee := Callee.builtin Builtin.len, args := #[Operand.tmp 16], argTypes := #[23] }, type := 3, pos := "proof.go:13", after := #[{ on := 7, ground := Ground.data }, { on := 5, ground := Ground.guard }], guard := some (5, false) }) (v := ?vg9) rfl (by kernel_rfl) (by kernel_rfl) (by kernel_rfl) (fun _ _ _ h => h) (Or.inl ⟨by rfl, ?yg9⟩) (by assumption) ?rg9
  case yg9 => (intro w hSw; (try dsimp only at hSw); go_simp; (try with_reducible rfl))
  try simp only [Act.put, List.setIfInBounds_toArray, List.set_cons_zero, List.set_cons_succ]
  refine wpAnyH_take (i := 9) (oi := { dst := some 18, op := Op.move (Operand.tmp 0), type := 22, pos := "proof.go:13", after := #[{ on := 5, ground := Ground.guard }], guard := some (5, false) }) (v := ?vg10) rfl (by kernel_rfl) (by kernel_rfl) (by kernel_rfl) (fun _ _ _ h => h) (Or.inl ⟨by rfl, ?yg10⟩) (by assumption) ?rg10
  case yg10 => (intro w hSw; (try dsimp only at hSw); go_simp; (try with_reducible rfl))
  try simp only [Act.put, List.setIfInBounds_toArray, List.set_cons_zero, List.set_cons_succ]
  refine wpAnyH_take (i := 10) (oi := { dst := some 19, op := Op.call { callee := Callee.builtin Builtin.len, args := #[Operand.tmp 18], argTypes := #[22] }, type := 3, pos := "proof.go:13", after := #[{ on := 9, ground := Ground.data }, { on := 5, ground := Ground.guard }], guard := some (5, false) }) (v := ?vg11) rfl (by kernel_rfl) (by kernel_rfl) (by kernel_rfl) (fun _ _ _ h => h) (Or.inl ⟨by rfl, ?yg11⟩) (by assumption) ?rg11
  case yg11 => (intro w hSw; (try dsimp only at hSw); go_simp; (try with_reducible rfl))
  try simp only [Act.put, List.setIfInBounds_toArray, List.set_cons_zero, List.set_cons_succ]
  refine wpAnyH_take (i := 11) (oi := { dst := some 20, op := Op.binOp BinOp.neq 3 (Operand.tmp 17) (Operand.tmp 19) 3, type := 4, pos := "proof.go:13", after := #[{ on := 8, ground := Ground.data }, { on := 10, ground := Ground.data }, { on := 5, ground := Ground.guard }], guard := some (5, false) }) (v := ?vg12) rfl (by kernel_rfl) (by kernel_rfl) (by kernel_rfl) (fun _ _ _ h => h) (Or.inl ⟨by rfl, ?yg12⟩) (by assumption) ?rg12
  case yg12 => (intro w hSw; (try dsimp only at hSw); go_simp; (try with_reducible rfl))
  try simp only [Act.put, List.setIfInBounds_toArray, List.set_cons_zero, List.set_cons_succ]
  refine wpAnyH_take (i := 12) (oi := { dst := some 21, op := Op.pick (Operand.tmp 14) (Operand.const (Value.bool true)) (Operand.tmp 20), type := 4, pos := "proof.go:13", after := #[{ on := 5, ground := Ground.data }, { on := 11, ground := Ground.data }], guard := none }) (v := ?vg13) rfl (by kernel_rfl) (by kernel_rfl) (by kernel_rfl) (fun _ _ _ h => h) (Or.inl ⟨by rfl, ?yg13⟩) (by assumption) ?rg13
  case yg13 => (intro w hSw; (try dsimp only at hSw); go_simp; (try with_reducible rfl))
  try simp only [Act.put, List.setIfInBounds_toArray, List.set_cons_zero, List.set_cons_succ]
  refine wpAnyH_take (i := 13) (oi := { dst := some 22, op := Op.move (Operand.tmp 21), type := 4, pos := "proof.go:13", after := #[{ on := 12, ground := Ground.data }, { on := 5, ground := Ground.chain }], guard := none }) (v := ?vg14) rfl (by kernel_rfl) (by kernel_rfl) (by kernel_rfl) (fun _ _ _ h => h) (Or.inl ⟨by rfl, ?yg14⟩) (by assumption) ?rg14
  case yg14 => (intro w hSw; (try dsimp only at hSw); go_simp; (try with_reducible rfl))
  try simp only [Act.put, List.setIfInBounds_toArray, List.set_cons_zero, List.set_cons_succ]
  refine wpAnyH_take (i := 14) (oi := { dst := some 23, op := Op.fieldAddr 35 (Operand.tmp 3) 2, type := 0, pos := "proof.go:13", after := #[{ on := 13, ground := Ground.guard }], guard := some (13, false) }) (v := ?vg15) rfl (by kernel_rfl) (by kernel_rfl) (by kernel_rfl) (fun _ _ _ h => h) (Or.inl ⟨by rfl, ?yg15⟩) (by assumption) ?rg15
  case yg15 => (intro w hSw; (try dsimp only at hSw); go_simp; (try with_reducible rfl))
  try simp only [Act.put, List.setIfInBounds_toArray, List.set_cons_zero, List.set_cons_succ]
  refine wpAnyH_take (i := 15) (oi := { dst := some 24, op := Op.load 23 (Operand.tmp 23), type := 23, pos := "proof.go:13", after := #[{ on := 14, ground := Ground.data }, { on := 13, ground := Ground.guard }], guard := some (13, false) }) (v := ?vg16) rfl (by kernel_rfl) (by kernel_rfl) (by kernel_rfl) (fun _ _ _ h => h) (Or.inl ⟨by rfl, ?yg16⟩) (by assumption) ?rg16
  case yg16 => (intro w hSw; (try dsimp only at hSw); go_simp; (try with_reducible rfl))
  try simp only [Act.put, List.setIfInBounds_toArray, List.set_cons_zero, List.set_cons_succ]
  refine wpAnyH_take (i := 16) (oi := { dst := some 25, op := Op.call { callee := Callee.builtin Builtin.len, args := #[Operand.tmp 24], argTypes := #[23] }, type := 3, pos := "proof.go:13", after := #[{ on := 15, ground := Ground.data }, { on := 13, ground := Ground.guard }], guard := some (13, false) }) (v := ?vg17) rfl (by kernel_rfl) (by kernel_rfl) (by kernel_rfl) (fun _ _ _ h => h) (Or.inl ⟨by rfl, ?yg17⟩) (by assumption) ?rg17
  case yg17 => (intro w hSw; (try dsimp only at hSw); go_simp; (try with_reducible rfl))
  try simp only [Act.put, List.setIfInBounds_toArray, List.set_cons_zero, List.set_cons_succ]
  refine wpAnyH_take (i := 17) (oi := { dst := some 26, op := Op.move (Operand.tmp 0), type := 22, pos := "proof.go:13", after := #[{ on := 13, ground := Ground.guard }], guard := some (13, false) }) (v := ?vg18) rfl (by kernel_rfl) (by kernel_rfl) (by kernel_rfl) (fun _ _ _ h => h) (Or.inl ⟨by rfl, ?yg18⟩) (by assumption) ?rg18
  case yg18 => (intro w hSw; (try dsimp only at hSw); go_simp; (try with_reducible rfl))
  try simp only [Act.put, List.setIfInBounds_toArray, List.set_cons_zero, List.set_cons_succ]
  refine wpAnyH_take (i := 18) (oi := { dst := some 27, op := Op.indexAddr 22 (Operand.tmp 26) (Operand.const (Value.int IntKind.i64 0)), type := 0, pos := "proof.go:13", after := #[{ on := 17, ground := Ground.data }, { on := 13, ground := Ground.guard }], guard := some (13, false) }) (v := ?vg19) rfl (by kernel_rfl) (by kernel_rfl) (by kernel_rfl) (fun _ _ _ h => h) (Or.inl ⟨by rfl, ?yg19⟩) (by assumption) ?rg19
  case yg19 => (intro w hSw; (try dsimp only at hSw); go_simp; (try with_reducible rfl))
  try simp only [Act.put, List.setIfInBounds_toArray, List.set_cons_zero, List.set_cons_succ]
  refine wpAnyH_take (i := 19) (oi := { dst := some 28, op := Op.load 23 (Operand.tmp 27), type := 23, pos := "proof.go:13", after := #[{ on := 18, ground := Ground.data }, { on := 13, ground := Ground.guard }], guard := some (13, false) }) (v := ?vg20) rfl (by kernel_rfl) (by kernel_rfl) (by kernel_rfl) (fun _ _ _ h => h) (Or.inl ⟨by rfl, ?yg20⟩) (by assumption) ?rg20
  case yg20 => (intro w hSw; (try dsimp only at hSw); go_simp; (try with_reducible rfl))
  try simp only [Act.put, List.setIfInBounds_toArray, List.set_cons_zero, List.set_cons_succ]
  refine wpAnyH_take (i := 20) (oi := { dst := some 29, op := Op.call { callee := Callee.builtin Builtin.len, args := #[Operand.tmp 28], argTypes := #[23] }, type := 3, pos := "proof.go:13", after := #[{ on := 19, ground := Ground.data }, { on := 13, ground := Ground.guard }], guard := some (13, false) }) (v := ?vg21) rfl (by kernel_rfl) (by kernel_rfl) (by kernel_rfl) (fun _ _ _ h => h) (Or.inl ⟨by rfl, ?yg21⟩) (by assumption) ?rg21
  case yg21 => (intro w hSw; (try dsimp only at hSw); go_simp; (try with_reducible rfl))
  try simp only [Act.put, List.setIfInBounds_toArray, List.set_cons_zero, List.set_cons_succ]
  refine wpAnyH_take (i := 21) (oi := { dst := some 30, op := Op.binOp BinOp.neq 3 (Operand.tmp 25) (Operand.tmp 29) 3, type := 4, pos := "proof.go:13", after := #[{ on := 16, ground := Ground.data }, { on := 20, ground := Ground.data }, { on := 13, ground := Ground.guard }], guard := some (13, false) }) (v := ?vg22) rfl (by kernel_rfl) (by kernel_rfl) (by kernel_rfl) (fun _ _ _ h => h) (Or.inl ⟨by rfl, ?yg22⟩) (by assumption) ?rg22
  case yg22 => (intro w hSw; (try dsimp only at hSw); go_simp; (try with_reducible rfl))
  try simp only [Act.put, List.setIfInBounds_toArray, List.set_cons_zero, List.set_cons_succ]
  refine wpAnyH_take (i := 22) (oi := { dst := some 31, op := Op.pick (Operand.tmp 22) (Operand.const (Value.bool true)) (Operand.tmp 30), type := 4, pos := "proof.go:13", after := #[{ on := 13, ground := Ground.data }, { on := 21, ground := Ground.data }], guard := none }) (v := ?vg23) rfl (by kernel_rfl) (by kernel_rfl) (by kernel_rfl) (fun _ _ _ h => h) (Or.inl ⟨by rfl, ?yg23⟩) (by assumption) ?rg23
  case yg23 => (intro w hSw; (try dsimp only at hSw); go_simp; (try with_reducible rfl))
  try simp only [Act.put, List.setIfInBounds_toArray, List.set_cons_zero, List.set_cons_succ]
  refine wpAnyH_done (by kernel_rfl) ?_ _
  clear x0 x1 x2 x3 hr0'
  have hW5 : Below W.heap.size W w5.drew := hl5'.drew
  go_wp2_with (fail)
  refine wp_region_held_drew (S := (fun w' => w'.cell? ⟨w.heap.size, 0, none⟩ = some (.slice A0 L0 c0) ∧ w'.cell? ⟨w.heap.size, 1, none⟩ = some (.slice A1 L1 c1) ∧ w'.cell? ⟨w.heap.size, 2, none⟩ = some (.slice A2 L2 c2) ∧ w'.cell? ⟨w.heap.size, 3, none⟩ = some (.int .i64 cost))) (by kernel_rfl) ?_ (fun hHeld => ?_)
  · (try dsimp only); exact ⟨k0, k1, k2, k3⟩
  refine wpAnyH_take (i := 0) (oi := { dst := some 32, op := Op.fieldAddr 35 (Operand.tmp 3) 3, type := 0, pos := "proof.go:16", after := #[], guard := none }) (v := ?vgg1) rfl (by kernel_rfl) (by kernel_rfl) (by kernel_rfl) (fun _ _ _ h => h) (Or.inl ⟨by rfl, ?ygg1⟩) (by assumption) ?rgg1
  case ygg1 => (intro w hSw; (try dsimp only at hSw); go_simp; (try with_reducible rfl))
  try simp only [Act.put, List.setIfInBounds_toArray, List.set_cons_zero, List.set_cons_succ]
  refine wpAnyH_take (i := 1) (oi := { dst := some 33, op := Op.load 3 (Operand.tmp 32), type := 3, pos := "proof.go:16", after := #[{ on := 0, ground := Ground.data }], guard := none }) (v := ?vgg2) rfl (by kernel_rfl) (by kernel_rfl) (by kernel_rfl) (fun _ _ _ h => h) (Or.inl ⟨by rfl, ?ygg2⟩) (by assumption) ?rgg2
  case ygg2 => (intro w hSw; (try dsimp only at hSw); go_simp; (try with_reducible rfl))
  try simp only [Act.put, List.setIfInBounds_toArray, List.set_cons_zero, List.set_cons_succ]
  refine wpAnyH_take (i := 2) (oi := { dst := some 34, op := Op.move (Operand.tmp 0), type := 22, pos := "proof.go:16", after := #[], guard := none }) (v := ?vgg3) rfl (by kernel_rfl) (by kernel_rfl) (by kernel_rfl) (fun _ _ _ h => h) (Or.inl ⟨by rfl, ?ygg3⟩) (by assumption) ?rgg3
  case ygg3 => (intro w hSw; (try dsimp only at hSw); go_simp; (try with_reducible rfl))
  try simp only [Act.put, List.setIfInBounds_toArray, List.set_cons_zero, List.set_cons_succ]
  refine wpAnyH_take (i := 3) (oi := { dst := some 35, op := Op.fieldAddr 35 (Operand.tmp 3) 0, type := 0, pos := "proof.go:16", after := #[], guard := none }) (v := ?vgg4) rfl (by kernel_rfl) (by kernel_rfl) (by kernel_rfl) (fun _ _ _ h => h) (Or.inl ⟨by rfl, ?ygg4⟩) (by assumption) ?rgg4
  case ygg4 => (intro w hSw; (try dsimp only at hSw); go_simp; (try with_reducible rfl))
  try simp only [Act.put, List.setIfInBounds_toArray, List.set_cons_zero, List.set_cons_succ]
  refine wpAnyH_take (i := 4) (oi := { dst := some 36, op := Op.load 23 (Operand.tmp 35), type := 23, pos := "proof.go:16", after := #[{ on := 3, ground := Ground.data }], guard := none }) (v := ?vgg5) rfl (by kernel_rfl) (by kernel_rfl) (by kernel_rfl) (fun _ _ _ h => h) (Or.inl ⟨by rfl, ?ygg5⟩) (by assumption) ?rgg5
  case ygg5 => (intro w hSw; (try dsimp only at hSw); go_simp; (try with_reducible rfl))
  try simp only [Act.put, List.setIfInBounds_toArray, List.set_cons_zero, List.set_cons_succ]
  refine wpAnyH_ready (rs := [5]) (by kernel_rfl) (by simp) ?_
  refine AllReadyH.cons (o := { dst := some 37, op := Op.call { callee := Callee.value (Operand.func 49), args := #[Operand.tmp 34, Operand.tmp 36], argTypes := #[22, 23] }, type := 3, pos := "proof.go:16", after := #[{ on := 2, ground := Ground.data }, { on := 4, ground := Ground.data }], guard := none }) rfl (fun K hK => ?_) AllReadyH.nil
  go_simp; go_wp2_with (go_at_call 49; (with_reducible refine (HTO.out _ hW5).mono ?_); rintro e w6 ⟨rfl, rfl⟩)
  refine hK.out _ _ ?_ (fun hHeld => ?_)
  · (try dsimp only); first | exact ⟨i0, i1, i2, i3⟩ | exact ⟨j0, j1, j2, j3⟩ | exact ⟨k0, k1, k2, k3⟩
  clear hK K
  refine wpAnyH_take (i := 6) (oi := { dst := some 38, op := Op.binOp BinOp.eql 3 (Operand.tmp 33) (Operand.tmp 37) 3, type := 4, pos := "proof.go:16", after := #[{ on := 1, ground := Ground.data }, { on := 5, ground := Ground.data }], guard := none }) (v := ?vgg7) rfl (by kernel_rfl) (by kernel_rfl) (by kernel_rfl) (fun _ _ _ h => h) (Or.inl ⟨by rfl, ?ygg7⟩) (by assumption) ?rgg7
  case ygg7 => (intro w hSw; (try dsimp only at hSw); go_simp; (try with_reducible rfl))
  try simp only [Act.put, List.setIfInBounds_toArray, List.set_cons_zero, List.set_cons_succ]
  refine wpAnyH_take (i := 7) (oi := { dst := some 39, op := Op.move (Operand.tmp 38), type := 4, pos := "proof.go:16", after := #[{ on := 6, ground := Ground.data }, { on := 5, ground := Ground.chain }], guard := none }) (v := ?vgg8) rfl (by kernel_rfl) (by kernel_rfl) (by kernel_rfl) (fun _ _ _ h => h) (Or.inl ⟨by rfl, ?ygg8⟩) (by assumption) ?rgg8
  case ygg8 => (intro w hSw; (try dsimp only at hSw); go_simp; (try with_reducible rfl))
  try simp only [Act.put, List.setIfInBounds_toArray, List.set_cons_zero, List.set_cons_succ]
  refine wpAnyH_take (i := 8) (oi := { dst := some 40, op := Op.load 35 (Operand.tmp 3), type := 35, pos := "proof.go:16", after := #[{ on := 7, ground := Ground.guard }], guard := some (7, true) }) (v := ?vgg9) rfl (by kernel_rfl) (by kernel_rfl) (by kernel_rfl) (fun _ _ _ h => h) (Or.inl ⟨by rfl, ?ygg9⟩) (by assumption) ?rgg9
  case ygg9 => (intro w hSw; (try dsimp only at hSw); go_simp; (try with_reducible rfl))
  try simp only [Act.put, List.setIfInBounds_toArray, List.set_cons_zero, List.set_cons_succ]
  refine wpAnyH_ready (rs := [9]) (by kernel_rfl) (by simp) ?_
  refine AllReadyH.cons (o := { dst := some 41, op := Op.call { callee := Callee.value (Operand.func 57), args := #[Operand.tmp 40], argTypes := #[35] }, type := 4, pos := "proof.go:16", after := #[{ on := 8, ground := Ground.data }, { on := 7, ground := Ground.chain }, { on := 7, ground := Ground.guard }], guard := some (7, true) }) rfl (fun K hK => ?_) AllReadyH.nil
  go_simp; go_wp2_with (go_at_call 57; (with_reducible refine (HCO.out _ hW5).mono ?_); rintro e w7 ⟨hl7, rfl⟩; have hW7 := hW5.trans (hl7.mono hW5.size); obtain ⟨j0, j1, j2, j3, j4⟩ := HKP.out w7 hW7)
  refine hK.out _ _ ?_ (fun hHeld => ?_)
  · (try dsimp only); first | exact ⟨i0, i1, i2, i3⟩ | exact ⟨j0, j1, j2, j3⟩ | exact ⟨k0, k1, k2, k3⟩
  clear hK K
  refine wpAnyH_take (i := 10) (oi := { dst := some 42, op := Op.pick (Operand.tmp 39) (Operand.tmp 41) (Operand.const (Value.bool false)), type := 4, pos := "proof.go:16", after := #[{ on := 7, ground := Ground.data }, { on := 9, ground := Ground.data }], guard := none }) (v := ?vgg11) rfl (by kernel_rfl) (by kernel_rfl) (by kernel_rfl) (fun _ _ _ h => h) (Or.inl ⟨by rfl, ?ygg11⟩) (by assumption) ?rgg11
  case ygg11 => (intro w hSw; (try dsimp only at hSw); go_simp; (try with_reducible rfl))
  try simp only [Act.put, List.setIfInBounds_toArray, List.set_cons_zero, List.set_cons_succ]
  refine wpAnyH_take (i := 11) (oi := { dst := some 43, op := Op.move (Operand.tmp 42), type := 4, pos := "proof.go:16", after := #[{ on := 10, ground := Ground.data }, { on := 9, ground := Ground.chain }], guard := none }) (v := ?vgg12) rfl (by kernel_rfl) (by kernel_rfl) (by kernel_rfl) (fun _ _ _ h => h) (Or.inl ⟨by rfl, ?ygg12⟩) (by assumption) ?rgg12
  case ygg12 => (intro w hSw; (try dsimp only at hSw); go_simp; (try with_reducible rfl))
  try simp only [Act.put, List.setIfInBounds_toArray, List.set_cons_zero, List.set_cons_succ]
  refine wpAnyH_take (i := 12) (oi := { dst := some 44, op := Op.move (Operand.tmp 0), type := 22, pos := "proof.go:16", after := #[{ on := 11, ground := Ground.guard }], guard := some (11, true) }) (v := ?vgg13) rfl (by kernel_rfl) (by kernel_rfl) (by kernel_rfl) (fun _ _ _ h => h) (Or.inl ⟨by rfl, ?ygg13⟩) (by assumption) ?rgg13
  case ygg13 => (intro w hSw; (try dsimp only at hSw); go_simp; (try with_reducible rfl))
  try simp only [Act.put, List.setIfInBounds_toArray, List.set_cons_zero, List.set_cons_succ]
  refine wpAnyH_take (i := 13) (oi := { dst := some 45, op := Op.load 35 (Operand.tmp 3), type := 35, pos := "proof.go:16", after := #[{ on := 11, ground := Ground.guard }], guard := some (11, true) }) (v := ?vgg14) rfl (by kernel_rfl) (by kernel_rfl) (by kernel_rfl) (fun _ _ _ h => h) (Or.inl ⟨by rfl, ?ygg14⟩) (by assumption) ?rgg14
  case ygg14 => (intro w hSw; (try dsimp only at hSw); go_simp; (try with_reducible rfl))
  try simp only [Act.put, List.setIfInBounds_toArray, List.set_cons_zero, List.set_cons_succ]
  refine wpAnyH_ready (rs := [14]) (by kernel_rfl) (by simp) ?_
  refine AllReadyH.cons (o := { dst := some 46, op := Op.call { callee := Callee.value (Operand.func 58), args := #[Operand.tmp 44, Operand.tmp 45], argTypes := #[22, 35] }, type := 4, pos := "proof.go:16", after := #[{ on := 12, ground := Ground.data }, { on := 13, ground := Ground.data }, { on := 11, ground := Ground.chain }, { on := 11, ground := Ground.guard }], guard := some (11, true) }) rfl (fun K hK => ?_) AllReadyH.nil
  go_simp; go_wp2_with (go_at_call 58; (with_reducible refine (HRO.out _ hW7).mono ?_); rintro e w8 ⟨hl8, rfl⟩; have hW8 := hW7.trans (hl8.mono hW7.size); obtain ⟨i0, i1, i2, i3, i4⟩ := HKP.out w8 hW8)
  refine hK.out _ _ ?_ (fun hHeld => ?_)
  · (try dsimp only); first | exact ⟨i0, i1, i2, i3⟩ | exact ⟨j0, j1, j2, j3⟩ | exact ⟨k0, k1, k2, k3⟩
  clear hK K
  refine wpAnyH_take (i := 15) (oi := { dst := some 47, op := Op.pick (Operand.tmp 43) (Operand.tmp 46) (Operand.const (Value.bool false)), type := 4, pos := "proof.go:16", after := #[{ on := 11, ground := Ground.data }, { on := 14, ground := Ground.data }], guard := none }) (v := ?vgg16) rfl (by kernel_rfl) (by kernel_rfl) (by kernel_rfl) (fun _ _ _ h => h) (Or.inl ⟨by rfl, ?ygg16⟩) (by assumption) ?rgg16
  case ygg16 => (intro w hSw; (try dsimp only at hSw); go_simp; (try with_reducible rfl))
  try simp only [Act.put, List.setIfInBounds_toArray, List.set_cons_zero, List.set_cons_succ]
  refine wpAnyH_take (i := 16) (oi := { dst := some 4, op := Op.assign (Operand.tmp 47), type := 4, pos := "proof.go:16", after := #[{ on := 15, ground := Ground.data }, { on := 14, ground := Ground.chain }, { on := 0, ground := Ground.phase }, { on := 1, ground := Ground.phase }, { on := 2, ground := Ground.phase }, { on := 3, ground := Ground.phase }, { on := 4, ground := Ground.phase }, { on := 5, ground := Ground.phase }, { on := 6, ground := Ground.phase }, { on := 7, ground := Ground.phase }, { on := 8, ground := Ground.phase }, { on := 9, ground := Ground.phase }, { on := 10, ground := Ground.phase }, { on := 11, ground := Ground.phase }, { on := 12, ground := Ground.phase }, { on := 13, ground := Ground.phase }, { on := 14, ground := Ground.phase }, { on := 15, ground := Ground.phase }], guard := none }) (v := ?vgg17) rfl (by kernel_rfl) (by kernel_rfl) (by kernel_rfl) (fun _ _ _ h => h) (Or.inl ⟨by rfl, ?ygg17⟩) (by assumption) ?rgg17
  case ygg17 => (intro w hSw; (try dsimp only at hSw); go_simp; (try with_reducible rfl))
  try simp only [Act.put, List.setIfInBounds_toArray, List.set_cons_zero, List.set_cons_succ]
  refine wpAnyH_take (i := 17) (oi := { dst := some 5, op := Op.assign (Operand.const (Value.int IntKind.i64 0)), type := 26, pos := "proof.go:16", after := #[{ on := 16, ground := Ground.chain }, { on := 0, ground := Ground.phase }, { on := 1, ground := Ground.phase }, { on := 2, ground := Ground.phase }, { on := 3, ground := Ground.phase }, { on := 4, ground := Ground.phase }, { on := 5, ground := Ground.phase }, { on := 6, ground := Ground.phase }, { on := 7, ground := Ground.phase }, { on := 8, ground := Ground.phase }, { on := 9, ground := Ground.phase }, { on := 10, ground := Ground.phase }, { on := 11, ground := Ground.phase }, { on := 12, ground := Ground.phase }, { on := 13, ground := Ground.phase }, { on := 14, ground := Ground.phase }, { on := 15, ground := Ground.phase }, { on := 16, ground := Ground.phase }], guard := none }) (v := ?vgg18) rfl (by kernel_rfl) (by kernel_rfl) (by kernel_rfl) (fun _ _ _ h => h) (Or.inl ⟨by rfl, ?ygg18⟩) (by assumption) ?rgg18
  case ygg18 => (intro w hSw; (try dsimp only at hSw); go_simp; (try with_reducible rfl))
  try simp only [Act.put, List.setIfInBounds_toArray, List.set_cons_zero, List.set_cons_succ]
  refine wpAnyH_done (by kernel_rfl) ?_ _
  go_wp2_with (fail)
  go_ret2
  exact ⟨hlW.trans (hW8.mono hlW.size), rfl⟩

set_option maxHeartbeats 8000000 in
set_option maxRecDepth 100000 in
theorem mproves_h (cA c0 c1 c2 n m L0 L1 L2 : Nat) (A A0 A1 A2 : Option Addr) (ls : List (List Int)) (l us vs : List Int) (cost : Int) (w : World) (T : Tab w.heap.size w A ls) (h0 : Ints w A0 l) (h1 : Ints w A1 us) (h2 : Ints w A2 vs)
    (G : Good n m ls) (d1 : 1 ≤ n) (d2 : n ≤ m) (d3 : m ≤ 64) (hchk : chkT ls = true) (hL0 : L0 = l.length) (hL1 : L1 = us.length) (hL2 : L2 = vs.length) (hI : IsAsg n m (cst ls) l) (hx : L1 = n) (hy : L2 = m) (hs : costN (cst ls) (colOf l) n = cost) (hC : ColsP m l vs) (hR : RowsP n m (cst ls) l us vs) :
    Calls Try.prog 33 #[.slice A n cA, .agg #[.slice A0 L0 c0, .slice A1 L1 c1, .slice A2 L2 c2, .int .i64 cost]] w fun e w' => Below w.heap.size w w' ∧ e = .returned (.tuple #[.bool true, .int .i64 0]) := by
  obtain ⟨O, hO⟩ : ∃ O, O = Obj.cells #[.slice A0 L0 c0, .slice A1 L1 c1, .slice A2 L2 c2, .int .i64 cost] 35 := ⟨_, rfl⟩
  have hbx : Blk 35 (w.alloc O) w.heap.size [.slice A0 L0 c0, .slice A1 L1 c1, .slice A2 L2 c2, .int .i64 cost] := by rw [hO]; exact Blk.new w 35 _
  have hlW := below_new w O
  have T' := T.keep hlW
  have hck := check_any w.heap.size A cA n ls (w.alloc O) T' G.rows.symm
  have hce : ckE ls = 0 := by unfold ckE; rw [hchk]; rfl
  rw [hce] at hck
  have h0' := Vals.keep h0 hlW
  have h1' := Vals.keep h1 hlW
  have h2' := Vals.keep h2 hlW
  have hia : ∀ W, Below (w.alloc O).heap.size (w.alloc O) W → Calls Try.prog 48 #[.slice A n cA, .slice A0 L0 c0] W fun e w' => Below W.heap.size W w' ∧ e = .returned (.bool true) := fun W hW =>
    (isAsg_any w.heap.size n m cA c0 L0 A A0 ls l W (T'.keep (hW.mono hlW.size)) (Nat.le_trans hlW.size hW.size) G (Vals.keep h0' hW) hL0 d1 d2 d3).mono fun e w' h => ⟨h.1, by
      rcases h.2 with ⟨k, h⟩ | ⟨k, h⟩
      · exact h
      · exact absurd hI k⟩
  have hin : ∀ a, a < n → 0 ≤ l.getD a 0 ∧ l.getD a 0 < (m : Int) := fun a ha => by
    have p1 := hI.pos a ha
    have p2 := (hI.asg.ok a ha).1
    unfold colOf at p2
    exact ⟨p1, by omega⟩
  have hL0n : L0 = n := hL0.trans hI.len
  have hto : ∀ W, Below (w.alloc O).heap.size (w.alloc O) W → Calls Try.prog 49 #[.slice A n cA, .slice A0 L0 c0] W fun e w' => e = .returned (.int .i64 (costN (cst ls) (colOf l) n)) ∧ W = w' := fun W hW =>
    total_any w.heap.size n m cA c0 L0 A A0 ls l W (T'.keep (hW.mono hlW.size)) G (Vals.keep h0' hW) hL0 d1 d2 d3 hI
  have hco : ∀ W, Below (w.alloc O).heap.size (w.alloc O) W → Calls Try.prog 57 #[.agg #[.slice A0 L0 c0, .slice A1 L1 c1, .slice A2 L2 c2, .int .i64 cost]] W fun e w' => Below W.heap.size W w' ∧ e = .returned (.bool true) := fun W hW => by
    subst hy
    exact (cols_any L2 c0 c1 c2 L0 L1 A0 A1 A2 l vs _ W (Vals.keep h0' hW) (Vals.keep h2' hW) hL0 hL2 d3 (by omega) (fun a ha => hin a (by omega))).mono fun e w' h => ⟨h.1, by
      rcases h.2 with ⟨k, h⟩ | ⟨k, h⟩
      · exact h
      · exact absurd hC k⟩
  have hv : ∀ k, k < m → -2000000000000000000 ≤ vs.getD k 0 ∧ vs.getD k 0 ≤ 0 := fun k hk => inB_t (hC k hk).1
  have hro : ∀ W, Below (w.alloc O).heap.size (w.alloc O) W → Calls Try.prog 58 #[.slice A n cA, .agg #[.slice A0 L0 c0, .slice A1 L1 c1, .slice A2 L2 c2, .int .i64 cost]] W fun e w' => Below W.heap.size W w' ∧ e = .returned (.bool true) := fun W hW => by
    subst hL0n
    subst hx
    subst hy
    exact (rows_any w.heap.size L1 L2 cA c0 c1 c2 A A0 A1 A2 ls l us vs _ W (T'.keep (hW.mono hlW.size)) (Nat.le_trans hlW.size hW.size) G (Vals.keep h0' hW) (Vals.keep h1' hW) (Vals.keep h2' hW) hL1 hL2 hL0 d1 d2 d3 hin hv).mono fun e w' h => ⟨h.1, by
      rcases h.2 with ⟨k, h⟩ | ⟨k, h⟩
      · exact h
      · exact absurd hR k⟩
  obtain ⟨g, off, Ai, ci, rfl, hg, hr0, -⟩ := G.at_ T' (i := 0) (by omega)
  have hr0' : (w.alloc O).cell? ⟨g, off, none⟩ = some (.slice Ai m ci) := hr0
  have hKP : ∀ W, Below (w.alloc O).heap.size (w.alloc O) W → W.cell? ⟨w.heap.size, 0, none⟩ = some (.slice A0 L0 c0) ∧ W.cell? ⟨w.heap.size, 1, none⟩ = some (.slice A1 L1 c1) ∧ W.cell? ⟨w.heap.size, 2, none⟩ = some (.slice A2 L2 c2) ∧ W.cell? ⟨w.heap.size, 3, none⟩ = some (.int .i64 cost) ∧ W.cell? ⟨g, off, none⟩ = some (.slice Ai m ci) := fun W h =>
    ⟨(hbx.keep h).cell 0, (hbx.keep h).cell 1, (hbx.keep h).cell 2, (hbx.keep h).cell 3, (h.cell (p := ⟨g, off, none⟩) (Nat.lt_of_lt_of_le hg hlW.size)).trans hr0'⟩
  obtain ⟨x0, x1, x2, x3, -⟩ := hKP _ (Below.refl _ _)
  have HIA := Lib.hid hia
  have HCK := Lib.hid hck
  have HKP := Lib.hid hKP
  have hnI : (0 : Int) < (n : Int) := by omega
  have hnN : 0 < n := by omega
  have hb1 : ((L1 : Int) != (n : Int)) = false := by simp; omega
  have hb2 : ((L2 : Int) != (m : Int)) = false := by simp; omega
  have HTO := Lib.hid hto
  have HCO := Lib.hid hco
  have HRO := Lib.hid hro
  generalize costN (cst ls) (colOf l) n = sm at *
  have hb3 : (cost == sm) = true := by simp; exact hs.symm
  clear hbx h0 h1 h2 T T' hck hce hL0 hL1 hL2 hr0 hia G hKP hchk h0' h1' h2' hI hx hy hin hL0n hto hs hC hco hv hro hR
  subst hO
  go_enter Try.func33, Try.ntmps33
  go_wp2_with (go_at_call 25; refine (HCK.out).mono ?_; rintro e w1 ⟨rfl, rfl⟩)
  generalize w.alloc (Obj.cells #[.slice A0 L0 c0, .slice A1 L1 c1, .slice A2 L2 c2, .int .i64 cost] 35) = W at *
  have hWd : Below W.heap.size W W.drew := (Below.refl W.heap.size W).drew
  refine wp_region_held_drew (S := (fun w' => w'.cell? ⟨w.heap.size, 0, none⟩ = some (.slice A0 L0 c0) ∧ w'.cell? ⟨w.heap.size, 1, none⟩ = some (.slice A1 L1 c1) ∧ w'.cell? ⟨w.heap.size, 2, none⟩ = some (.slice A2 L2 c2) ∧ w'.cell? ⟨g, off, none⟩ = some (.slice Ai m ci))) (by kernel_rfl) ?_ (fun hHeld => ?_)
  · (try dsimp only); exact ⟨x0, x1, x2, hr0'⟩
  refine wpAnyH_take (i := 0) (oi := { dst := some 9, op := Op.move (Operand.tmp 0), type := 22, pos := "proof.go:13", after := #[], guard := none }) (v := ?vh1) rfl (by kernel_rfl) (by kernel_rfl) (by kernel_rfl) (fun _ _ _ h => h) (Or.inl ⟨by rfl, ?yh1⟩) (by assumption) ?rh1
  case yh1 => (intro w hSw; (try dsimp only at hSw); go_simp; (try with_reducible rfl))
  try simp only [Act.put, List.setIfInBounds_toArray, List.set_cons_zero, List.set_cons_succ]
  refine wpAnyH_take (i := 1) (oi := { dst := some 10, op := Op.fieldAddr 35 (Operand.tmp 3) 0, type := 0, pos := "proof.go:13", after := #[], guard := none }) (v := ?vh2) rfl (by kernel_rfl) (by kernel_rfl) (by kernel_rfl) (fun _ _ _ h => h) (Or.inl ⟨by rfl, ?yh2⟩) (by assumption) ?rh2
  case yh2 => (intro w hSw; (try dsimp only at hSw); go_simp; (try with_reducible rfl))
  try simp only [Act.put, List.setIfInBounds_toArray, List.set_cons_zero, List.set_cons_succ]
  refine wpAnyH_take (i := 2) (oi := { dst := some 11, op := Op.load 23 (Operand.tmp 10), type := 23, pos := "proof.go:13", after := #[{ on := 1, ground := Ground.data }], guard := none }) (v := ?vh3) rfl (by kernel_rfl) (by kernel_rfl) (by kernel_rfl) (fun _ _ _ h => h) (Or.inl ⟨by rfl, ?yh3⟩) (by assumption) ?rh3
  case yh3 => (intro w hSw; (try dsimp only at hSw); go_simp; (try with_reducible rfl))
  try simp only [Act.put, List.setIfInBounds_toArray, List.set_cons_zero, List.set_cons_succ]
  refine wpAnyH_ready (rs := [3]) (by kernel_rfl) (by simp) ?_
  refine AllReadyH.cons (o := { dst := some 12, op := Op.call { callee := Callee.value (Operand.func 48), args := #[Operand.tmp 9, Operand.tmp 11], argTypes := #[22, 23] }, type := 4, pos := "proof.go:13", after := #[{ on := 0, ground := Ground.data }, { on := 2, ground := Ground.data }], guard := none }) rfl (fun K hK => ?_) AllReadyH.nil
  go_simp; go_wp2_with (go_at_call 48; (with_reducible refine (HIA.out _ hWd).mono ?_); rintro e w5 ⟨hl5, rfl⟩; have hl5' := hWd.trans hl5; obtain ⟨k0, k1, k2, k3, k4⟩ := HKP.out w5 hl5')
  refine hK.out _ _ ?_ (fun hHeld => ?_)
  · (try dsimp only); exact ⟨k0, k1, k2, k4⟩
  clear hK K
  refine wpAnyH_take (i := 4) (oi := { dst := some 13, op := Op.unOp UnOp.not 4 (Operand.tmp 12), type := 4, pos := "proof.go:13", after := #[{ on := 3, ground := Ground.data }], guard := none }) (v := ?vh5) rfl (by kernel_rfl) (by kernel_rfl) (by kernel_rfl) (fun _ _ _ h => h) (Or.inl ⟨by rfl, ?yh5⟩) (by assumption) ?rh5
  case yh5 => (intro w hSw; (try dsimp only at hSw); go_simp; (try with_reducible rfl))
  try simp only [Act.put, List.setIfInBounds_toArray, List.set_cons_zero, List.set_cons_succ]
  refine wpAnyH_take (i := 5) (oi := { dst := some 14, op := Op.move (Operand.tmp 13), type := 4, pos := "proof.go:13", after := #[{ on := 4, ground := Ground.data }, { on := 3, ground := Ground.chain }], guard := none }) (v := ?vh6) rfl (by kernel_rfl) (by kernel_rfl) (by kernel_rfl) (fun _ _ _ h => h) (Or.inl ⟨by rfl, ?yh6⟩) (by assumption) ?rh6
  case yh6 => (intro w hSw; (try dsimp only at hSw); go_simp; (try with_reducible rfl))
  try simp only [Act.put, List.setIfInBounds_toArray, List.set_cons_zero, List.set_cons_succ]
  refine wpAnyH_take (i := 6) (oi := { dst := some 15, op := Op.fieldAddr 35 (Operand.tmp 3) 1, type := 0, pos := "proof.go:13", after := #[{ on := 5, ground := Ground.guard }], guard := some (5, false) }) (v := ?vh7) rfl (by kernel_rfl) (by kernel_rfl) (by kernel_rfl) (fun _ _ _ h => h) (Or.inl ⟨by rfl, ?yh7⟩) (by assumption) ?rh7
  case yh7 => (intro w hSw; (try dsimp only at hSw); go_simp; (try with_reducible rfl))
  try simp only [Act.put, List.setIfInBounds_toArray, List.set_cons_zero, List.set_cons_succ]
  refine wpAnyH_take (i := 7) (oi := { dst := some 16, op := Op.load 23 (Operand.tmp 15), type := 23, pos := "proof.go:13", after := #[{ on := 6, ground := Ground.data }, { on := 5, ground := Ground.guard }], guard := some (5, false) }) (v := ?vh8) rfl (by kernel_rfl) (by kernel_rfl) (by kernel_rfl) (fun _ _ _ h => h) (Or.inl ⟨by rfl, ?yh8⟩) (by assumption) ?rh8
  case yh8 => (intro w hSw; (try dsimp only at hSw); go_simp; (try with_reducible rfl))
  try simp only [Act.put, List.setIfInBounds_toArray, List.set_cons_zero, List.set_cons_succ]
  refine wpAnyH_take (i := 8) (oi := { dst := some 17, op := Op.call { callee := Callee.builtin Builtin.len, args := #[Operand.tmp 16], argTypes := #[23] }, type := 3, pos := "proof.go:13", after := #[{ on := 7, ground := Ground.data }, { on := 5, ground := Ground.guard }], guard := some (5, false) }) (v := ?vh9) rfl (by kernel_rfl) (by kernel_rfl) (by kernel_rfl) (fun _ _ _ h => h) (Or.inl ⟨by rfl, ?yh9⟩) (by assumption) ?rh9
  case yh9 => (intro w hSw; (try dsimp only at hSw); go_simp; (try with_reducible rfl))
  try simp only [Act.put, List.setIfInBounds_toArray, List.set_cons_zero, List.set_cons_succ]
  refine wpAnyH_take (i := 9) (oi := { dst := some 18, op := Op.move (Operand.tmp 0), type := 22, pos := "proof.go:13", after := #[{ on := 5, ground := Ground.guard }], guard := some (5, false) }) (v := ?vh10) rfl (by kernel_rfl) (by kernel_rfl) (by kernel_rfl) (fun _ _ _ h => h) (Or.inl ⟨by rfl, ?yh10⟩) (by assumption) ?rh10
  case yh10 => (intro w hSw; (try dsimp only at hSw); go_simp; (try with_reducible rfl))
  try simp only [Act.put, List.setIfInBounds_toArray, List.set_cons_zero, List.set_cons_succ]
  refine wpAnyH_take (i := 10) (oi := { dst := some 19, op := Op.call { callee := Callee.builtin Builtin.len, args := #[Operand.tmp 18], argTypes := #[22] }, type := 3, pos := "proof.go:13", after := #[{ on := 9, ground := Ground.data }, { on := 5, ground := Ground.guard }], guard := some (5, false) }) (v := ?vh11) rfl (by kernel_rfl) (by kernel_rfl) (by kernel_rfl) (fun _ _ _ h => h) (Or.inl ⟨by rfl, ?yh11⟩) (by assumption) ?rh11
  case yh11 => (intro w hSw; (try dsimp only at hSw); go_simp; (try with_reducible rfl))
  try simp only [Act.put, List.setIfInBounds_toArray, List.set_cons_zero, List.set_cons_succ]
  refine wpAnyH_take (i := 11) (oi := { dst := some 20, op := Op.binOp BinOp.neq 3 (Operand.tmp 17) (Operand.tmp 19) 3, type := 4, pos := "proof.go:13", after := #[{ on := 8, ground := Ground.data }, { on := 10, ground := Ground.data }, { on := 5, ground := Ground.guard }], guard := some (5, false) }) (v := ?vh12) rfl (by kernel_rfl) (by kernel_rfl) (by kernel_rfl) (fun _ _ _ h => h) (Or.inl ⟨by rfl, ?yh12⟩) (by assumption) ?rh12
  case yh12 => (intro w hSw; (try dsimp only at hSw); go_simp; (try with_reducible rfl))
  try simp only [Act.put, List.setIfInBounds_toArray, List.set_cons_zero, List.set_cons_succ]
  refine wpAnyH_take (i := 12) (oi := { dst := some 21, op := Op.pick (Operand.tmp 14) (Operand.const (Value.bool true)) (Operand.tmp 20), type := 4, pos := "proof.go:13", after := #[{ on := 5, ground := Ground.data }, { on := 11, ground := Ground.data }], guard := none }) (v := ?vh13) rfl (by kernel_rfl) (by kernel_rfl) (by kernel_rfl) (fun _ _ _ h => h) (Or.inl ⟨by rfl, ?yh13⟩) (by assumption) ?rh13
  case yh13 => (intro w hSw; (try dsimp only at hSw); go_simp; (try with_reducible rfl))
  try simp only [Act.put, List.setIfInBounds_toArray, List.set_cons_zero, List.set_cons_succ]
  refine wpAnyH_take (i := 13) (oi := { dst := some 22, op := Op.move (Operand.tmp 21), type := 4, pos := "proof.go:13", after := #[{ on := 12, ground := Ground.data }, { on := 5, ground := Ground.chain }], guard := none }) (v := ?vh14) rfl (by kernel_rfl) (by kernel_rfl) (by kernel_rfl) (fun _ _ _ h => h) (Or.inl ⟨by rfl, ?yh14⟩) (by assumption) ?rh14
  case yh14 => (intro w hSw; (try dsimp only at hSw); go_simp; (try with_reducible rfl))
  try simp only [Act.put, List.setIfInBounds_toArray, List.set_cons_zero, List.set_cons_succ]
  refine wpAnyH_take (i := 14) (oi := { dst := some 23, op := Op.fieldAddr 35 (Operand.tmp 3) 2, type := 0, pos := "proof.go:13", after := #[{ on := 13, ground := Ground.guard }], guard := some (13, false) }) (v := ?vh15) rfl (by kernel_rfl) (by kernel_rfl) (by kernel_rfl) (fun _ _ _ h => h) (Or.inl ⟨by rfl, ?yh15⟩) (by assumption) ?rh15
  case yh15 => (intro w hSw; (try dsimp only at hSw); go_simp; (try with_reducible rfl))
  try simp only [Act.put, List.setIfInBounds_toArray, List.set_cons_zero, List.set_cons_succ]
  refine wpAnyH_take (i := 15) (oi := { dst := some 24, op := Op.load 23 (Operand.tmp 23), type := 23, pos := "proof.go:13", after := #[{ on := 14, ground := Ground.data }, { on := 13, ground := Ground.guard }], guard := some (13, false) }) (v := ?vh16) rfl (by kernel_rfl) (by kernel_rfl) (by kernel_rfl) (fun _ _ _ h => h) (Or.inl ⟨by rfl, ?yh16⟩) (by assumption) ?rh16
  case yh16 => (intro w hSw; (try dsimp only at hSw); go_simp; (try with_reducible rfl))
  try simp only [Act.put, List.setIfInBounds_toArray, List.set_cons_zero, List.set_cons_succ]
  refine wpAnyH_take (i := 16) (oi := { dst := some 25, op := Op.call { callee := Callee.builtin Builtin.len, args := #[Operand.tmp 24], argTypes := #[23] }, type := 3, pos := "proof.go:13", after := #[{ on := 15, ground := Ground.data }, { on := 13, ground := Ground.guard }], guard := some (13, false) }) (v := ?vh17) rfl (by kernel_rfl) (by kernel_rfl) (by kernel_rfl) (fun _ _ _ h => h) (Or.inl ⟨by rfl, ?yh17⟩) (by assumption) ?rh17
  case yh17 => (intro w hSw; (try dsimp only at hSw); go_simp; (try with_reducible rfl))
  try simp only [Act.put, List.setIfInBounds_toArray, List.set_cons_zero, List.set_cons_succ]
  refine wpAnyH_take (i := 17) (oi := { dst := some 26, op := Op.move (Operand.tmp 0), type := 22, pos := "proof.go:13", after := #[{ on := 13, ground := Ground.guard }], guard := some (13, false) }) (v := ?vh18) rfl (by kernel_rfl) (by kernel_rfl) (by kernel_rfl) (fun _ _ _ h => h) (Or.inl ⟨by rfl, ?yh18⟩) (by assumption) ?rh18
  case yh18 => (intro w hSw; (try dsimp only at hSw); go_simp; (try with_reducible rfl))
  try simp only [Act.put, List.setIfInBounds_toArray, List.set_cons_zero, List.set_cons_succ]
  refine wpAnyH_take (i := 18) (oi := { dst := some 27, op := Op.indexAddr 22 (Operand.tmp 26) (Operand.const (Value.int IntKind.i64 0)), type := 0, pos := "proof.go:13", after := #[{ on := 17, ground := Ground.data }, { on := 13, ground := Ground.guard }], guard := some (13, false) }) (v := ?vh19) rfl (by kernel_rfl) (by kernel_rfl) (by kernel_rfl) (fun _ _ _ h => h) (Or.inl ⟨by rfl, ?yh19⟩) (by assumption) ?rh19
  case yh19 => (intro w hSw; (try dsimp only at hSw); go_simp; (try with_reducible rfl))
  try simp only [Act.put, List.setIfInBounds_toArray, List.set_cons_zero, List.set_cons_succ]
  refine wpAnyH_take (i := 19) (oi := { dst := some 28, op := Op.load 23 (Operand.tmp 27), type := 23, pos := "proof.go:13", after := #[{ on := 18, ground := Ground.data }, { on := 13, ground := Ground.guard }], guard := some (13, false) }) (v := ?vh20) rfl (by kernel_rfl) (by kernel_rfl) (by kernel_rfl) (fun _ _ _ h => h) (Or.inl ⟨by rfl, ?yh20⟩) (by assumption) ?rh20
  case yh20 => (intro w hSw; (try dsimp only at hSw); go_simp; (try with_reducible rfl))
  try simp only [Act.put, List.setIfInBounds_toArray, List.set_cons_zero, List.set_cons_succ]
  refine wpAnyH_take (i := 20) (oi := { dst := some 29, op := Op.call { callee := Callee.builtin Builtin.len, args := #[Operand.tmp 28], argTypes := #[23] }, type := 3, pos := "proof.go:13", after := #[{ on := 19, ground := Ground.data }, { on := 13, ground := Ground.guard }], guard := some (13, false) }) (v := ?vh21) rfl (by kernel_rfl) (by kernel_rfl) (by kernel_rfl) (fun _ _ _ h => h) (Or.inl ⟨by rfl, ?yh21⟩) (by assumption) ?rh21
  case yh21 => (intro w hSw; (try dsimp only at hSw); go_simp; (try with_reducible rfl))
  try simp only [Act.put, List.setIfInBounds_toArray, List.set_cons_zero, List.set_cons_succ]
  refine wpAnyH_take (i := 21) (oi := { dst := some 30, op := Op.binOp BinOp.neq 3 (Operand.tmp 25) (Operand.tmp 29) 3, type := 4, pos := "proof.go:13", after := #[{ on := 16, ground := Ground.data }, { on := 20, ground := Ground.data }, { on := 13, ground := Ground.guard }], guard := some (13, false) }) (v := ?vh22) rfl (by kernel_rfl) (by kernel_rfl) (by kernel_rfl) (fun _ _ _ h => h) (Or.inl ⟨by rfl, ?yh22⟩) (by assumption) ?rh22
  case yh22 => (intro w hSw; (try dsimp only at hSw); go_simp; (try with_reducible rfl))
  try simp only [Act.put, List.setIfInBounds_toArray, List.set_cons_zero, List.set_cons_succ]
  refine wpAnyH_take (i := 22) (oi := { dst := some 31, op := Op.pick (Operand.tmp 22) (Operand.const (Value.bool true)) (Operand.tmp 30), type := 4, pos := "proof.go:13", after := #[{ on := 13, ground := Ground.data }, { on := 21, ground := Ground.data }], guard := none }) (v := ?vh23) rfl (by kernel_rfl) (by kernel_rfl) (by kernel_rfl) (fun _ _ _ h => h) (Or.inl ⟨by rfl, ?yh23⟩) (by assumption) ?rh23
  case yh23 => (intro w hSw; (try dsimp only at hSw); go_simp; (try with_reducible rfl))
  try simp only [Act.put, List.setIfInBounds_toArray, List.set_cons_zero, List.set_cons_succ]
  refine wpAnyH_done (by kernel_rfl) ?_ _
  clear x0 x1 x2 x3 hr0'
  have hW5 : Below W.heap.size W w5.drew := hl5'.drew
  go_wp2_with (fail)
  refine wp_region_held_drew (S := (fun w' => w'.cell? ⟨w.heap.size, 0, none⟩ = some (.slice A0 L0 c0) ∧ w'.cell? ⟨w.heap.size, 1, none⟩ = some (.slice A1 L1 c1) ∧ w'.cell? ⟨w.heap.size, 2, none⟩ = some (.slice A2 L2 c2) ∧ w'.cell? ⟨w.heap.size, 3, none⟩ = some (.int .i64 cost))) (by kernel_rfl) ?_ (fun hHeld => ?_)
  · (try dsimp only); exact ⟨k0, k1, k2, k3⟩
  refine wpAnyH_take (i := 0) (oi := { dst := some 32, op := Op.fieldAddr 35 (Operand.tmp 3) 3, type := 0, pos := "proof.go:16", after := #[], guard := none }) (v := ?vhh1) rfl (by kernel_rfl) (by kernel_rfl) (by kernel_rfl) (fun _ _ _ h => h) (Or.inl ⟨by rfl, ?yhh1⟩) (by assumption) ?rhh1
  case yhh1 => (intro w hSw; (try dsimp only at hSw); go_simp; (try with_reducible rfl))
  try simp only [Act.put, List.setIfInBounds_toArray, List.set_cons_zero, List.set_cons_succ]
  refine wpAnyH_take (i := 1) (oi := { dst := some 33, op := Op.load 3 (Operand.tmp 32), type := 3, pos := "proof.go:16", after := #[{ on := 0, ground := Ground.data }], guard := none }) (v := ?vhh2) rfl (by kernel_rfl) (by kernel_rfl) (by kernel_rfl) (fun _ _ _ h => h) (Or.inl ⟨by rfl, ?yhh2⟩) (by assumption) ?rhh2
  case yhh2 => (intro w hSw; (try dsimp only at hSw); go_simp; (try with_reducible rfl))
  try simp only [Act.put, List.setIfInBounds_toArray, List.set_cons_zero, List.set_cons_succ]
  refine wpAnyH_take (i := 2) (oi := { dst := some 34, op := Op.move (Operand.tmp 0), type := 22, pos := "proof.go:16", after := #[], guard := none }) (v := ?vhh3) rfl (by kernel_rfl) (by kernel_rfl) (by kernel_rfl) (fun _ _ _ h => h) (Or.inl ⟨by rfl, ?yhh3⟩) (by assumption) ?rhh3
  case yhh3 => (intro w hSw; (try dsimp only at hSw); go_simp; (try with_reducible rfl))
  try simp only [Act.put, List.setIfInBounds_toArray, List.set_cons_zero, List.set_cons_succ]
  refine wpAnyH_take (i := 3) (oi := { dst := some 35, op := Op.fieldAddr 35 (Operand.tmp 3) 0, type := 0, pos := "proof.go:16", after := #[], guard := none }) (v := ?vhh4) rfl (by kernel_rfl) (by kernel_rfl) (by kernel_rfl) (fun _ _ _ h => h) (Or.inl ⟨by rfl, ?yhh4⟩) (by assumption) ?rhh4
  case yhh4 => (intro w hSw; (try dsimp only at hSw); go_simp; (try with_reducible rfl))
  try simp only [Act.put, List.setIfInBounds_toArray, List.set_cons_zero, List.set_cons_succ]
  refine wpAnyH_take (i := 4) (oi := { dst := some 36, op := Op.load 23 (Operand.tmp 35), type := 23, pos := "proof.go:16", after := #[{ on := 3, ground := Ground.data }], guard := none }) (v := ?vhh5) rfl (by kernel_rfl) (by kernel_rfl) (by kernel_rfl) (fun _ _ _ h => h) (Or.inl ⟨by rfl, ?yhh5⟩) (by assumption) ?rhh5
  case yhh5 => (intro w hSw; (try dsimp only at hSw); go_simp; (try with_reducible rfl))
  try simp only [Act.put, List.setIfInBounds_toArray, List.set_cons_zero, List.set_cons_succ]
  refine wpAnyH_ready (rs := [5]) (by kernel_rfl) (by simp) ?_
  refine AllReadyH.cons (o := { dst := some 37, op := Op.call { callee := Callee.value (Operand.func 49), args := #[Operand.tmp 34, Operand.tmp 36], argTypes := #[22, 23] }, type := 3, pos := "proof.go:16", after := #[{ on := 2, ground := Ground.data }, { on := 4, ground := Ground.data }], guard := none }) rfl (fun K hK => ?_) AllReadyH.nil
  go_simp; go_wp2_with (go_at_call 49; (with_reducible refine (HTO.out _ hW5).mono ?_); rintro e w6 ⟨rfl, rfl⟩)
  refine hK.out _ _ ?_ (fun hHeld => ?_)
  · (try dsimp only); first | exact ⟨i0, i1, i2, i3⟩ | exact ⟨j0, j1, j2, j3⟩ | exact ⟨k0, k1, k2, k3⟩
  clear hK K
  refine wpAnyH_take (i := 6) (oi := { dst := some 38, op := Op.binOp BinOp.eql 3 (Operand.tmp 33) (Operand.tmp 37) 3, type := 4, pos := "proof.go:16", after := #[{ on := 1, ground := Ground.data }, { on := 5, ground := Ground.data }], guard := none }) (v := ?vhh7) rfl (by kernel_rfl) (by kernel_rfl) (by kernel_rfl) (fun _ _ _ h => h) (Or.inl ⟨by rfl, ?yhh7⟩) (by assumption) ?rhh7
  case yhh7 => (intro w hSw; (try dsimp only at hSw); go_simp; (try with_reducible rfl))
  try simp only [Act.put, List.setIfInBounds_toArray, List.set_cons_zero, List.set_cons_succ]
  refine wpAnyH_take (i := 7) (oi := { dst := some 39, op := Op.move (Operand.tmp 38), type := 4, pos := "proof.go:16", after := #[{ on := 6, ground := Ground.data }, { on := 5, ground := Ground.chain }], guard := none }) (v := ?vhh8) rfl (by kernel_rfl) (by kernel_rfl) (by kernel_rfl) (fun _ _ _ h => h) (Or.inl ⟨by rfl, ?yhh8⟩) (by assumption) ?rhh8
  case yhh8 => (intro w hSw; (try dsimp only at hSw); go_simp; (try with_reducible rfl))
  try simp only [Act.put, List.setIfInBounds_toArray, List.set_cons_zero, List.set_cons_succ]
  refine wpAnyH_take (i := 8) (oi := { dst := some 40, op := Op.load 35 (Operand.tmp 3), type := 35, pos := "proof.go:16", after := #[{ on := 7, ground := Ground.guard }], guard := some (7, true) }) (v := ?vhh9) rfl (by kernel_rfl) (by kernel_rfl) (by kernel_rfl) (fun _ _ _ h => h) (Or.inl ⟨by rfl, ?yhh9⟩) (by assumption) ?rhh9
  case yhh9 => (intro w hSw; (try dsimp only at hSw); go_simp; (try with_reducible rfl))
  try simp only [Act.put, List.setIfInBounds_toArray, List.set_cons_zero, List.set_cons_succ]
  refine wpAnyH_ready (rs := [9]) (by kernel_rfl) (by simp) ?_
  refine AllReadyH.cons (o := { dst := some 41, op := Op.call { callee := Callee.value (Operand.func 57), args := #[Operand.tmp 40], argTypes := #[35] }, type := 4, pos := "proof.go:16", after := #[{ on := 8, ground := Ground.data }, { on := 7, ground := Ground.chain }, { on := 7, ground := Ground.guard }], guard := some (7, true) }) rfl (fun K hK => ?_) AllReadyH.nil
  go_simp; go_wp2_with (go_at_call 57; (with_reducible refine (HCO.out _ hW5).mono ?_); rintro e w7 ⟨hl7, rfl⟩; have hW7 := hW5.trans (hl7.mono hW5.size); obtain ⟨j0, j1, j2, j3, j4⟩ := HKP.out w7 hW7)
  refine hK.out _ _ ?_ (fun hHeld => ?_)
  · (try dsimp only); first | exact ⟨i0, i1, i2, i3⟩ | exact ⟨j0, j1, j2, j3⟩ | exact ⟨k0, k1, k2, k3⟩
  clear hK K
  refine wpAnyH_take (i := 10) (oi := { dst := some 42, op := Op.pick (Operand.tmp 39) (Operand.tmp 41) (Operand.const (Value.bool false)), type := 4, pos := "proof.go:16", after := #[{ on := 7, ground := Ground.data }, { on := 9, ground := Ground.data }], guard := none }) (v := ?vhh11) rfl (by kernel_rfl) (by kernel_rfl) (by kernel_rfl) (fun _ _ _ h => h) (Or.inl ⟨by rfl, ?yhh11⟩) (by assumption) ?rhh11
  case yhh11 => (intro w hSw; (try dsimp only at hSw); go_simp; (try with_reducible rfl))
  try simp only [Act.put, List.setIfInBounds_toArray, List.set_cons_zero, List.set_cons_succ]
  refine wpAnyH_take (i := 11) (oi := { dst := some 43, op := Op.move (Operand.tmp 42), type := 4, pos := "proof.go:16", after := #[{ on := 10, ground := Ground.data }, { on := 9, ground := Ground.chain }], guard := none }) (v := ?vhh12) rfl (by kernel_rfl) (by kernel_rfl) (by kernel_rfl) (fun _ _ _ h => h) (Or.inl ⟨by rfl, ?yhh12⟩) (by assumption) ?rhh12
  case yhh12 => (intro w hSw; (try dsimp only at hSw); go_simp; (try with_reducible rfl))
  try simp only [Act.put, List.setIfInBounds_toArray, List.set_cons_zero, List.set_cons_succ]
  refine wpAnyH_take (i := 12) (oi := { dst := some 44, op := Op.move (Operand.tmp 0), type := 22, pos := "proof.go:16", after := #[{ on := 11, ground := Ground.guard }], guard := some (11, true) }) (v := ?vhh13) rfl (by kernel_rfl) (by kernel_rfl) (by kernel_rfl) (fun _ _ _ h => h) (Or.inl ⟨by rfl, ?yhh13⟩) (by assumption) ?rhh13
  case yhh13 => (intro w hSw; (try dsimp only at hSw); go_simp; (try with_reducible rfl))
  try simp only [Act.put, List.setIfInBounds_toArray, List.set_cons_zero, List.set_cons_succ]
  refine wpAnyH_take (i := 13) (oi := { dst := some 45, op := Op.load 35 (Operand.tmp 3), type := 35, pos := "proof.go:16", after := #[{ on := 11, ground := Ground.guard }], guard := some (11, true) }) (v := ?vhh14) rfl (by kernel_rfl) (by kernel_rfl) (by kernel_rfl) (fun _ _ _ h => h) (Or.inl ⟨by rfl, ?yhh14⟩) (by assumption) ?rhh14
  case yhh14 => (intro w hSw; (try dsimp only at hSw); go_simp; (try with_reducible rfl))
  try simp only [Act.put, List.setIfInBounds_toArray, List.set_cons_zero, List.set_cons_succ]
  refine wpAnyH_ready (rs := [14]) (by kernel_rfl) (by simp) ?_
  refine AllReadyH.cons (o := { dst := some 46, op := Op.call { callee := Callee.value (Operand.func 58), args := #[Operand.tmp 44, Operand.tmp 45], argTypes := #[22, 35] }, type := 4, pos := "proof.go:16", after := #[{ on := 12, ground := Ground.data }, { on := 13, ground := Ground.data }, { on := 11, ground := Ground.chain }, { on := 11, ground := Ground.guard }], guard := some (11, true) }) rfl (fun K hK => ?_) AllReadyH.nil
  go_simp; go_wp2_with (go_at_call 58; (with_reducible refine (HRO.out _ hW7).mono ?_); rintro e w8 ⟨hl8, rfl⟩; have hW8 := hW7.trans (hl8.mono hW7.size); obtain ⟨i0, i1, i2, i3, i4⟩ := HKP.out w8 hW8)
  refine hK.out _ _ ?_ (fun hHeld => ?_)
  · (try dsimp only); first | exact ⟨i0, i1, i2, i3⟩ | exact ⟨j0, j1, j2, j3⟩ | exact ⟨k0, k1, k2, k3⟩
  clear hK K
  refine wpAnyH_take (i := 15) (oi := { dst := some 47, op := Op.pick (Operand.tmp 43) (Operand.tmp 46) (Operand.const (Value.bool false)), type := 4, pos := "proof.go:16", after := #[{ on := 11, ground := Ground.data }, { on := 14, ground := Ground.data }], guard := none }) (v := ?vhh16) rfl (by kernel_rfl) (by kernel_rfl) (by kernel_rfl) (fun _ _ _ h => h) (Or.inl ⟨by rfl, ?yhh16⟩) (by assumption) ?rhh16
  case yhh16 => (intro w hSw; (try dsimp only at hSw); go_simp; (try with_reducible rfl))
  try simp only [Act.put, List.setIfInBounds_toArray, List.set_cons_zero, List.set_cons_succ]
  refine wpAnyH_take (i := 16) (oi := { dst := some 4, op := Op.assign (Operand.tmp 47), type := 4, pos := "proof.go:16", after := #[{ on := 15, ground := Ground.data }, { on := 14, ground := Ground.chain }, { on := 0, ground := Ground.phase }, { on := 1, ground := Ground.phase }, { on := 2, ground := Ground.phase }, { on := 3, ground := Ground.phase }, { on := 4, ground := Ground.phase }, { on := 5, ground := Ground.phase }, { on := 6, ground := Ground.phase }, { on := 7, ground := Ground.phase }, { on := 8, ground := Ground.phase }, { on := 9, ground := Ground.phase }, { on := 10, ground := Ground.phase }, { on := 11, ground := Ground.phase }, { on := 12, ground := Ground.phase }, { on := 13, ground := Ground.phase }, { on := 14, ground := Ground.phase }, { on := 15, ground := Ground.phase }], guard := none }) (v := ?vhh17) rfl (by kernel_rfl) (by kernel_rfl) (by kernel_rfl) (fun _ _ _ h => h) (Or.inl ⟨by rfl, ?yhh17⟩) (by assumption) ?rhh17
  case yhh17 => (intro w hSw; (try dsimp only at hSw); go_simp; (try with_reducible rfl))
  try simp only [Act.put, List.setIfInBounds_toArray, List.set_cons_zero, List.set_cons_succ]
  refine wpAnyH_take (i := 17) (oi := { dst := some 5, op := Op.assign (Operand.const (Value.int IntKind.i64 0)), type := 26, pos := "proof.go:16", after := #[{ on := 16, ground := Ground.chain }, { on := 0, ground := Ground.phase }, { on := 1, ground := Ground.phase }, { on := 2, ground := Ground.phase }, { on := 3, ground := Ground.phase }, { on := 4, ground := Ground.phase }, { on := 5, ground := Ground.phase }, { on := 6, ground := Ground.phase }, { on := 7, ground := Ground.phase }, { on := 8, ground := Ground.phase }, { on := 9, ground := Ground.phase }, { on := 10, ground := Ground.phase }, { on := 11, ground := Ground.phase }, { on := 12, ground := Ground.phase }, { on := 13, ground := Ground.phase }, { on := 14, ground := Ground.phase }, { on := 15, ground := Ground.phase }, { on := 16, ground := Ground.phase }], guard := none }) (v := ?vhh18) rfl (by kernel_rfl) (by kernel_rfl) (by kernel_rfl) (fun _ _ _ h => h) (Or.inl ⟨by rfl, ?yhh18⟩) (by assumption) ?rhh18
  case yhh18 => (intro w hSw; (try dsimp only at hSw); go_simp; (try with_reducible rfl))
  try simp only [Act.put, List.setIfInBounds_toArray, List.set_cons_zero, List.set_cons_succ]
  refine wpAnyH_done (by kernel_rfl) ?_ _
  go_wp2_with (fail)
  go_ret2
  exact ⟨hlW.trans (hW8.mono hlW.size), rfl⟩

/-- What Proves returns of a valid table. -/
theorem mproves_any (cA c0 c1 c2 n m L0 L1 L2 : Nat) (A A0 A1 A2 : Option Addr) (ls : List (List Int)) (l us vs : List Int) (cost : Int) (w : World) (T : Tab w.heap.size w A ls) (h0 : Ints w A0 l) (h1 : Ints w A1 us) (h2 : Ints w A2 vs)
    (G : Good n m ls) (d1 : 1 ≤ n) (d2 : n ≤ m) (d3 : m ≤ 64) (hchk : chkT ls = true) (hL0 : L0 = l.length) (hL1 : L1 = us.length) (hL2 : L2 = vs.length) :
    Calls Try.prog 33 #[.slice A n cA, .agg #[.slice A0 L0 c0, .slice A1 L1 c1, .slice A2 L2 c2, .int .i64 cost]] w fun e w' => Below w.heap.size w w' ∧
      ((¬ (IsAsg n m (cst ls) l ∧ L1 = n ∧ L2 = m) ∧ e = .returned (.tuple #[.bool false, .int .i64 2])) ∨
       ((IsAsg n m (cst ls) l ∧ L1 = n ∧ L2 = m) ∧ ((PrvP n m (cst ls) l us vs cost ∧ e = .returned (.tuple #[.bool true, .int .i64 0])) ∨ (¬ PrvP n m (cst ls) l us vs cost ∧ e = .returned (.tuple #[.bool false, .int .i64 0]))))) := by
  by_cases hI : IsAsg n m (cst ls) l
  · by_cases hx : L1 = n
    · by_cases hy : L2 = m
      · by_cases hs : costN (cst ls) (colOf l) n = cost
        · by_cases hC : ColsP m l vs
          · by_cases hR : RowsP n m (cst ls) l us vs
            · exact (mproves_h cA c0 c1 c2 n m L0 L1 L2 A A0 A1 A2 ls l us vs cost w T h0 h1 h2 G d1 d2 d3 hchk hL0 hL1 hL2 hI hx hy hs hC hR).mono fun e w' h => ⟨h.1, .inr ⟨⟨hI, hx, hy⟩, .inl ⟨⟨hs, hC, hR⟩, h.2⟩⟩⟩
            · exact (mproves_g cA c0 c1 c2 n m L0 L1 L2 A A0 A1 A2 ls l us vs cost w T h0 h1 h2 G d1 d2 d3 hchk hL0 hL1 hL2 hI hx hy hs hC hR).mono fun e w' h => ⟨h.1, .inr ⟨⟨hI, hx, hy⟩, .inr ⟨fun k => hR k.2.2, h.2⟩⟩⟩
          · exact (mproves_f cA c0 c1 c2 n m L0 L1 L2 A A0 A1 A2 ls l us vs cost w T h0 h1 h2 G d1 d2 d3 hchk hL0 hL1 hL2 hI hx hy hs hC).mono fun e w' h => ⟨h.1, .inr ⟨⟨hI, hx, hy⟩, .inr ⟨fun k => hC k.2.1, h.2⟩⟩⟩
        · exact (mproves_e cA c0 c1 c2 n m L0 L1 L2 A A0 A1 A2 ls l us vs cost w T h0 h1 h2 G d1 d2 d3 hchk hL0 hL1 hL2 hI hx hy hs).mono fun e w' h => ⟨h.1, .inr ⟨⟨hI, hx, hy⟩, .inr ⟨fun k => hs k.1, h.2⟩⟩⟩
      · exact (mproves_d cA c0 c1 c2 n m L0 L1 L2 A A0 A1 A2 ls l us vs cost w T h0 h1 h2 G d1 d2 d3 hchk hL0 hL1 hL2 hI hx hy).mono fun e w' h => ⟨h.1, .inl ⟨fun k => hy k.2.2, h.2⟩⟩
    · exact (mproves_c cA c0 c1 c2 n m L0 L1 L2 A A0 A1 A2 ls l us vs cost w T h0 h1 h2 G d1 d2 d3 hchk hL0 hL1 hL2 hI hx).mono fun e w' h => ⟨h.1, .inl ⟨fun k => hx k.2.1, h.2⟩⟩
  · exact (mproves_b cA c0 c1 c2 n m L0 L1 L2 A A0 A1 A2 ls l us vs cost w T h0 h1 h2 G d1 d2 d3 hchk hL0 hL1 hL2 hI).mono fun e w' h => ⟨h.1, .inl ⟨fun k => hI k.1, h.2⟩⟩
end Go.Proofs.Ytncmfjncdhhjoaa
