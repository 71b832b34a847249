/- The walk of MatchProves. -/
import Derived.Test.YtncmfjncdhhjoaaWPrb
import Derived.Test.YtncmfjncdhhjoaaWOwT
import Derived.Test.YtncmfjncdhhjoaaWBest
import Derived.Test.YtncmfjncdhhjoaaWCut
import Derived.Deep.Cut
namespace Go.Proofs.Ytncmfjncdhhjoaa
open Go.RowKit

set_option maxHeartbeats 2000000 in
set_option maxRecDepth 100000 in
theorem mproves_a (cA c0 c1 c2 L L0 L1 L2 : Nat) (A A0 A1 A2 : Option Addr) (ls : List (List Int)) (cost : Int) (w : World) (T : Tab w.heap.size w A ls) (hL : L = ls.length) (hchk : chkT ls = false) :
    Calls Try.prog 33 #[.slice A L cA, .agg #[.slice A0 L0 c0, .slice A1 L1 c1, .slice A2 L2 c2, .int .i64 cost]] w fun e w' => Below w.heap.size w w' ∧ e = .returned (.tuple #[.bool false, .int .i64 1]) := by
  have hlW := fun O => below_new w O
  have hck := fun O => check_any w.heap.size A cA L ls (w.alloc O) (T.keep (hlW O)) hL
  have hce : ckE ls = 1 := by unfold ckE; rw [hchk]; rfl
  rw [hce] at hck
  have HCK := Lib.hid hck
  clear hck hce hchk T hL
  go_enter Try.func33, Try.ntmps33
  go_wp2_with (go_at_call 25; refine (HCK.out _).mono ?_; rintro e w1 ⟨rfl, rfl⟩)
  go_ret2
  exact ⟨hlW _, rfl⟩

/-- The matching that the law makes of its own. -/
structure MtM (w wr : World) (q a0 a1 a2 k0 k1 k2 : Nat) (l us vs : List Int) (cost : Int) : Prop where
  box : Blk 35 wr q [.slice (some ⟨a0, 0, none⟩) l.length k0, .slice (some ⟨a1, 0, none⟩) us.length k1, .slice (some ⟨a2, 0, none⟩) vs.length k2, .int .i64 cost]
  r0 : Ints wr (some ⟨a0, 0, none⟩) l
  r1 : Ints wr (some ⟨a1, 0, none⟩) us
  r2 : Ints wr (some ⟨a2, 0, none⟩) vs
  bel : Below w.heap.size w wr
theorem MtM.keep {w wr w' : World} {q a0 a1 a2 k0 k1 k2 : Nat} {l us vs : List Int} {cost : Int} (h : MtM w wr q a0 a1 a2 k0 k1 k2 l us vs cost) (hb : Below wr.heap.size wr w') : MtM w w' q a0 a1 a2 k0 k1 k2 l us vs cost :=
  ⟨h.box.keep hb, h.r0.keep hb, h.r1.keep hb, h.r2.keep hb, h.bel.trans (hb.mono h.bel.size)⟩

theorem vals_far {W : World} {g q i : Nat} {vs : List Value} (h : Vals W (some ⟨g, 0, none⟩) vs) (hne : vs = [] ∨ g ≠ q) (v : Value) : Vals (W.setCell ⟨q, i, none⟩ v) (some ⟨g, 0, none⟩) vs := by
  rcases hne with rfl | hne
  · exact Vals.nil
  · intro hl
    obtain ⟨g', off', e, hg, hc⟩ := h hl
    injection e with e
    injection e with e1 e2
    subst e1 e2
    refine ⟨_, _, rfl, by simpa using hg, fun j u hu => ?_⟩
    rw [World.cell?_setCell_other _ _ _ _ (fun e => hne (by injection e with e1; exact e1.symm))]
    exact hc j u hu
theorem ints_ne {W : World} {g q : Nat} {l : List Int} {r : List Value} (h : Ints W (some ⟨g, 0, none⟩) l) (hb : Blk 35 W q (.slice none 0 0 :: r)) : is l = [] ∨ g ≠ q := by
  cases l with
  | nil => exact .inl rfl
  | cons x l =>
    right
    rintro rfl
    obtain ⟨g', off', e, hg, hc⟩ := h (by simp [is])
    injection e with e
    injection e with e1 e2
    subst e1 e2
    have h1 := hc 0 (.int .i64 x) rfl
    have h2 := hb.cell 0
    rw [Nat.add_zero] at h1
    rw [h1] at h2
    simp at h2
theorem mtm_set {w1 X : World} {q g5 g6 g7 k5 k6 k7 : Nat} {l us vs : List Int} {cost : Int} (hb : Blk 35 X q [.slice none 0 0, .slice none 0 0, .slice none 0 0, .int .i64 0]) (hq : w1.heap.size ≤ q) (hc : Below w1.heap.size w1 X)
    (h5 : Ints X (some ⟨g5, 0, none⟩) l) (h6 : Ints X (some ⟨g6, 0, none⟩) us) (h7 : Ints X (some ⟨g7, 0, none⟩) vs) :
    ∃ q' a0 a1 a2 k0 k1 k2, Value.pointer (some ⟨q, 0, none⟩) = .pointer (some ⟨q', 0, none⟩) ∧
      MtM w1 ((((X.setCell ⟨q, 0, none⟩ (.slice (some ⟨g5, 0, none⟩) l.length k5)).setCell ⟨q, 1, none⟩ (.slice (some ⟨g6, 0, none⟩) us.length k6)).setCell ⟨q, 2, none⟩ (.slice (some ⟨g7, 0, none⟩) vs.length k7)).setCell ⟨q, 3, none⟩ (.int .i64 cost)) q' a0 a1 a2 k0 k1 k2 l us vs cost := by
  have n5 := ints_ne h5 hb
  have n6 := ints_ne h6 hb
  have n7 := ints_ne h7 hb
  refine ⟨q, g5, g6, g7, k5, k6, k7, rfl, hb.set4 _ _ _ _, ?_, ?_, ?_, below_set4 hc hq _ _ _ _⟩
  · exact vals_far (vals_far (vals_far (vals_far h5 n5 _) n5 _) n5 _) n5 _
  · exact vals_far (vals_far (vals_far (vals_far h6 n6 _) n6 _) n6 _) n6 _
  · exact vals_far (vals_far (vals_far (vals_far h7 n7 _) n7 _) n7 _) n7 _

set_option maxHeartbeats 16000000 in
set_option maxRecDepth 100000 in
theorem matchProves_any (A A0 A1 A2 : Option Addr) (c L c0 L0 c1 L1 c2 L2 : Nat) (ls : List (List Int)) (z0 z1 z2 : List Int) (cost : Int) (w : World) (T : TabIn w A ls) (hL : L = ls.length)
    (h0 : Ints w A0 z0) (hL0 : L0 = z0.length) (hc0 : L0 ≤ c0) (hn0 : A0 = none → c0 = 0) (h1 : Ints w A1 z1) (hL1 : L1 = z1.length) (hc1 : L1 ≤ c1) (hn1 : A1 = none → c1 = 0) (h2 : Ints w A2 z2) (hL2 : L2 = z2.length) (hc2 : L2 ≤ c2) (hn2 : A2 = none → c2 = 0) :
    Calls Try.prog 5 #[.slice A L c, .agg #[.slice A0 L0 c0, .slice A1 L1 c1, .slice A2 L2 c2, .int .i64 cost]] w fun e w' => e = .returned (.bool true) ∧ Below w.heap.size w w' := by
  obtain ⟨O, hO⟩ : ∃ O, O = Obj.cells #[.slice A0 L0 c0, .slice A1 L1 c1, .slice A2 L2 c2, .int .i64 cost] 35 := ⟨_, rfl⟩
  have hbx : Blk 35 (w.alloc O) w.heap.size [.slice A0 L0 c0, .slice A1 L1 c1, .slice A2 L2 c2, .int .i64 cost] := by rw [hO]; exact Blk.new w 35 _
  have hlW := below_new w O
  have htb := table_any A c L 66 66 ls (w.alloc O) (T.keep hlW) hL (by omega) (by omega)
  have hq0 : ∀ W, Below w.heap.size w W → Calls Try.prog 22 #[.slice A0 L0 c0, .int .i64 66] W (OwnIs W (z0.take 66)) := fun W h => cut_any A0 c0 L0 66 z0 W (h0.keep h) hL0 hc0 hn0 (by omega)
  have hq1 : ∀ W, Below w.heap.size w W → Calls Try.prog 22 #[.slice A1 L1 c1, .int .i64 66] W (OwnIs W (z1.take 66)) := fun W h => cut_any A1 c1 L1 66 z1 W (h1.keep h) hL1 hc1 hn1 (by omega)
  have hq2 : ∀ W, Below w.heap.size w W → Calls Try.prog 22 #[.slice A2 L2 c2, .int .i64 66] W (OwnIs W (z2.take 66)) := fun W h => cut_any A2 c2 L2 66 z2 W (h2.keep h) hL2 hc2 hn2 (by omega)
  have HTB := Lib.hid htb
  have HQ0 := Lib.hid hq0
  have HQ1 := Lib.hid hq1
  have HQ2 := Lib.hid hq2
  have HBX := Lib.hid hbx
  have HLW := Lib.hid hlW
  have hl66 : (z0.take 66).length ≤ 66 := by rw [List.length_take]; omega
  generalize tblL ls 66 66 = ts at *
  generalize z0.take 66 = l at *
  generalize z1.take 66 = us at *
  generalize z2.take 66 = vs at *
  clear htb hq0 hq1 hq2 hbx hlW T hL h0 hL0 hc0 hn0 h1 hL1 hc1 hn1 h2 hL2 hc2 hn2
  subst hO
  go_enter Try.func5, Try.ntmps5
  go_wp2_with (fail)
  refine (HTB.out).mono ?_
  rintro e w1 ⟨v, es, rfl, hH, hv, hN, hE, hl1⟩
  obtain ⟨g, cap, rfl, hT⟩ := ownT_of hH hv hN hE
  have HT := Lib.hid hT
  have hl01 := HLW.out.trans (hl1.mono HLW.out.size)
  have hbx1 := HBX.out.keep hl1
  have x0 : w1.cell? ⟨w.heap.size, 0, none⟩ = some (.slice A0 L0 c0) := hbx1.cell 0
  have x1 : w1.cell? ⟨w.heap.size, 1, none⟩ = some (.slice A1 L1 c1) := hbx1.cell 1
  have x2 : w1.cell? ⟨w.heap.size, 2, none⟩ = some (.slice A2 L2 c2) := hbx1.cell 2
  have x3 : w1.cell? ⟨w.heap.size, 3, none⟩ = some (.int .i64 cost) := hbx1.cell 3
  have hkp : ∀ W, Below w1.heap.size w1 W → W.cell? ⟨w.heap.size, 0, none⟩ = some (.slice A0 L0 c0) ∧ W.cell? ⟨w.heap.size, 1, none⟩ = some (.slice A1 L1 c1) ∧ W.cell? ⟨w.heap.size, 2, none⟩ = some (.slice A2 L2 c2) ∧ W.cell? ⟨w.heap.size, 3, none⟩ = some (.int .i64 cost) := fun W h =>
    ⟨(hbx1.keep h).cell 0, (hbx1.keep h).cell 1, (hbx1.keep h).cell 2, (hbx1.keep h).cell 3⟩
  have HKP := Lib.hid hkp
  clear hH hv hN hE hT HTB hbx1 hkp HBX
  go_upto_region 2 with (fail)
  go_cut [6] from 12 (fun s ww => ∃ q a0 a1 a2 k0 k1 k2, s = .pointer (some ⟨q, 0, none⟩) ∧ MtM w1 ww q a0 a1 a2 k0 k1 k2 l us vs cost)
  case first =>
    have hcur : Below w1.heap.size w1 w1.drew := (Below.refl _ _).drew
    refine wp_region_held_drew (S := (fun w' => w'.cell? ⟨w.heap.size, 0, none⟩ = some (.slice A0 L0 c0) ∧ w'.cell? ⟨w.heap.size, 1, none⟩ = some (.slice A1 L1 c1) ∧ w'.cell? ⟨w.heap.size, 2, none⟩ = some (.slice A2 L2 c2) ∧ w'.cell? ⟨w.heap.size, 3, none⟩ = some (.int .i64 cost))) (by kernel_rfl) ?_ (fun hHeld => ?_)
    · (try dsimp only); exact HKP.out _ hcur
    generalize w1.drew = V at *
    refine wpAnyH_take (i := 0) (oi := { dst := some 14, op := Op.fieldAddr 35 (Operand.tmp 3) 0, type := 0, pos := "law.go:104", after := #[], guard := none }) (v := ?vq1) rfl (by kernel_rfl) (by kernel_rfl) (by kernel_rfl) (fun _ _ _ h => h) (Or.inl ⟨by rfl, ?yq1⟩) (by assumption) ?rq1
    case yq1 => (intro w hSw; (try dsimp only at hSw); go_simp; (try with_reducible rfl))
    try simp only [Act.put, List.setIfInBounds_toArray, List.set_cons_zero, List.set_cons_succ]
    refine wpAnyH_take (i := 1) (oi := { dst := some 15, op := Op.load 23 (Operand.tmp 14), type := 23, pos := "law.go:104", after := #[{ on := 0, ground := Ground.data }], guard := none }) (v := ?vq2) rfl (by kernel_rfl) (by kernel_rfl) (by kernel_rfl) (fun _ _ _ h => h) (Or.inl ⟨by rfl, ?yq2⟩) (by assumption) ?rq2
    case yq2 => (intro w hSw; (try dsimp only at hSw); go_simp; (try with_reducible rfl))
    try simp only [Act.put, List.setIfInBounds_toArray, List.set_cons_zero, List.set_cons_succ]
    refine wpAnyH_take (i := 3) (oi := { dst := some 17, op := Op.fieldAddr 35 (Operand.tmp 3) 1, type := 0, pos := "law.go:104", after := #[], guard := none }) (v := ?vq3) rfl (by kernel_rfl) (by kernel_rfl) (by kernel_rfl) (fun _ _ _ h => h) (Or.inl ⟨by rfl, ?yq3⟩) (by assumption) ?rq3
    case yq3 => (intro w hSw; (try dsimp only at hSw); go_simp; (try with_reducible rfl))
    try simp only [Act.put, List.setIfInBounds_toArray, List.set_cons_zero, List.set_cons_succ]
    refine wpAnyH_take (i := 4) (oi := { dst := some 18, op := Op.load 23 (Operand.tmp 17), type := 23, pos := "law.go:104", after := #[{ on := 3, ground := Ground.data }], guard := none }) (v := ?vq4) rfl (by kernel_rfl) (by kernel_rfl) (by kernel_rfl) (fun _ _ _ h => h) (Or.inl ⟨by rfl, ?yq4⟩) (by assumption) ?rq4
    case yq4 => (intro w hSw; (try dsimp only at hSw); go_simp; (try with_reducible rfl))
    try simp only [Act.put, List.setIfInBounds_toArray, List.set_cons_zero, List.set_cons_succ]
    refine wpAnyH_take (i := 6) (oi := { dst := some 20, op := Op.fieldAddr 35 (Operand.tmp 3) 2, type := 0, pos := "law.go:104", after := #[], guard := none }) (v := ?vq5) rfl (by kernel_rfl) (by kernel_rfl) (by kernel_rfl) (fun _ _ _ h => h) (Or.inl ⟨by rfl, ?yq5⟩) (by assumption) ?rq5
    case yq5 => (intro w hSw; (try dsimp only at hSw); go_simp; (try with_reducible rfl))
    try simp only [Act.put, List.setIfInBounds_toArray, List.set_cons_zero, List.set_cons_succ]
    refine wpAnyH_take (i := 7) (oi := { dst := some 21, op := Op.load 23 (Operand.tmp 20), type := 23, pos := "law.go:104", after := #[{ on := 6, ground := Ground.data }], guard := none }) (v := ?vq6) rfl (by kernel_rfl) (by kernel_rfl) (by kernel_rfl) (fun _ _ _ h => h) (Or.inl ⟨by rfl, ?yq6⟩) (by assumption) ?rq6
    case yq6 => (intro w hSw; (try dsimp only at hSw); go_simp; (try with_reducible rfl))
    try simp only [Act.put, List.setIfInBounds_toArray, List.set_cons_zero, List.set_cons_succ]
    refine wpAnyH_take (i := 9) (oi := { dst := some 23, op := Op.fieldAddr 35 (Operand.tmp 3) 3, type := 0, pos := "law.go:104", after := #[], guard := none }) (v := ?vq7) rfl (by kernel_rfl) (by kernel_rfl) (by kernel_rfl) (fun _ _ _ h => h) (Or.inl ⟨by rfl, ?yq7⟩) (by assumption) ?rq7
    case yq7 => (intro w hSw; (try dsimp only at hSw); go_simp; (try with_reducible rfl))
    try simp only [Act.put, List.setIfInBounds_toArray, List.set_cons_zero, List.set_cons_succ]
    refine wpAnyH_take (i := 10) (oi := { dst := some 24, op := Op.load 3 (Operand.tmp 23), type := 3, pos := "law.go:104", after := #[{ on := 9, ground := Ground.data }], guard := none }) (v := ?vq8) rfl (by kernel_rfl) (by kernel_rfl) (by kernel_rfl) (fun _ _ _ h => h) (Or.inl ⟨by rfl, ?yq8⟩) (by assumption) ?rq8
    case yq8 => (intro w hSw; (try dsimp only at hSw); go_simp; (try with_reducible rfl))
    try simp only [Act.put, List.setIfInBounds_toArray, List.set_cons_zero, List.set_cons_succ]
    refine wpAnyH_ready (rs := [2, 12]) (by kernel_rfl) (by simp) ?_
    refine AllReadyH.cons (o := { dst := some 16, op := Op.call { callee := Callee.value (Operand.func 22), args := #[Operand.tmp 15, Operand.const (Value.int IntKind.i64 66)], argTypes := #[23, 3] }, type := 23, pos := "law.go:104", after := #[{ on := 1, ground := Ground.data }], guard := none }) rfl (fun K hK => ?_) ?_
    ·
      go_simp
      go_wp2_with (go_at_call 22; (with_reducible refine (HQ0.out _ (hl01.trans (hcur.mono hl01.size))).mono ?_); rintro e w5 ⟨v5, rfl, -, ⟨g5, cap5, rfl, hI5⟩, hl⟩)
      replace hcur := hcur.trans (hl.mono hcur.size)
      clear hl
      refine hK.out _ _ ?_ (fun hHeld => ?_)
      · (try dsimp only); exact HKP.out _ hcur
      clear hK K
      refine wpAnyH_ready (rs := [5, 12]) (by kernel_rfl) (by simp) ?_
      refine AllReadyH.cons (o := { dst := some 19, op := Op.call { callee := Callee.value (Operand.func 22), args := #[Operand.tmp 18, Operand.const (Value.int IntKind.i64 66)], argTypes := #[23, 3] }, type := 23, pos := "law.go:104", after := #[{ on := 4, ground := Ground.data }, { on := 2, ground := Ground.chain }], guard := none }) rfl (fun K hK => ?_) ?_
      ·
        go_simp
        go_wp2_with (go_at_call 22; (with_reducible refine (HQ1.out _ (hl01.trans (hcur.mono hl01.size))).mono ?_); rintro e w6 ⟨v6, rfl, -, ⟨g6, cap6, rfl, hI6⟩, hl⟩)
        replace hcur := hcur.trans (hl.mono hcur.size)
        replace hI5 := Vals.keep hI5 hl
        clear hl
        refine hK.out _ _ ?_ (fun hHeld => ?_)
        · (try dsimp only); exact HKP.out _ hcur
        clear hK K
        refine wpAnyH_ready (rs := [8, 12]) (by kernel_rfl) (by simp) ?_
        refine AllReadyH.cons (o := { dst := some 22, op := Op.call { callee := Callee.value (Operand.func 22), args := #[Operand.tmp 21, Operand.const (Value.int IntKind.i64 66)], argTypes := #[23, 3] }, type := 23, pos := "law.go:104", after := #[{ on := 7, ground := Ground.data }, { on := 5, ground := Ground.chain }], guard := none }) rfl (fun K hK => ?_) ?_
        ·
          go_simp
          go_wp2_with (go_at_call 22; (with_reducible refine (HQ2.out _ (hl01.trans (hcur.mono hl01.size))).mono ?_); rintro e w7 ⟨v7, rfl, -, ⟨g7, cap7, rfl, hI7⟩, hl⟩)
          replace hcur := hcur.trans (hl.mono hcur.size)
          replace hI5 := Vals.keep hI5 hl
          replace hI6 := Vals.keep hI6 hl
          clear hl
          refine hK.out _ _ ?_ (fun hHeld => ?_)
          · (try dsimp only); exact HKP.out _ hcur
          clear hK K
          refine wpAnyH_take (i := 11) (oi := { dst := some 25, op := Op.build 35 #[(0, Operand.tmp 16), (1, Operand.tmp 19), (2, Operand.tmp 22), (3, Operand.tmp 24)], type := 35, pos := "law.go:104", after := #[{ on := 2, ground := Ground.data }, { on := 5, ground := Ground.data }, { on := 8, ground := Ground.data }, { on := 10, ground := Ground.data }], guard := none }) (v := ?vq9) rfl (by kernel_rfl) (by kernel_rfl) (by kernel_rfl) (fun _ _ _ h => h) (Or.inl ⟨by rfl, ?yq9⟩) (by assumption) ?rq9
          case yq9 => (intro w hSw; (try dsimp only at hSw); go_simp; (try with_reducible rfl))
          try simp only [Act.put, List.setIfInBounds_toArray, List.set_cons_zero, List.set_cons_succ]
          refine wpAnyH_ready (rs := [12]) (by kernel_rfl) (by simp) ?_
          refine AllReadyH.cons (o := { dst := some 6, op := Op.alloc 35, type := 0, pos := "law.go:104", after := #[], guard := none }) rfl (fun K hK => ?_) ?_
          ·
            go_simp
            refine hK.out _ _ ?_ (fun hHeld => ?_)
            · (try dsimp only); exact HKP.out _ (hcur.alloc hcur.size _)
            clear hK K
            have hbz : Blk 35 (w7.alloc (Obj.cells #[Value.slice none 0 0, Value.slice none 0 0, Value.slice none 0 0, Value.int .i64 0] 35)) w7.heap.size [Value.slice none 0 0, Value.slice none 0 0, Value.slice none 0 0, Value.int .i64 0] := Blk.new w7 35 _
            have hbq : w1.heap.size ≤ w7.heap.size := hcur.size
            replace hcur := hcur.alloc hcur.size (Obj.cells #[Value.slice none 0 0, Value.slice none 0 0, Value.slice none 0 0, Value.int .i64 0] 35)
            replace hI5 := Vals.alloc hI5 (Obj.cells #[Value.slice none 0 0, Value.slice none 0 0, Value.slice none 0 0, Value.int .i64 0] 35)
            replace hI6 := Vals.alloc hI6 (Obj.cells #[Value.slice none 0 0, Value.slice none 0 0, Value.slice none 0 0, Value.int .i64 0] 35)
            replace hI7 := Vals.alloc hI7 (Obj.cells #[Value.slice none 0 0, Value.slice none 0 0, Value.slice none 0 0, Value.int .i64 0] 35)
            generalize hq : w7.heap.size = q at *
            generalize w7.alloc (Obj.cells #[Value.slice none 0 0, Value.slice none 0 0, Value.slice none 0 0, Value.int .i64 0] 35) = w7z at *
            clear hq
            refine wpAnyH_ready (rs := [13]) (by kernel_rfl) (by simp) ?_
            refine AllReadyH.cons (o := { dst := none, op := Op.store 35 (Operand.tmp 6) (Operand.tmp 25), type := 0, pos := "law.go:104", after := #[{ on := 12, ground := Ground.data }, { on := 11, ground := Ground.data }, { on := 8, ground := Ground.chain }, { on := 0, ground := Ground.phase }, { on := 1, ground := Ground.phase }, { on := 2, ground := Ground.phase }, { on := 3, ground := Ground.phase }, { on := 4, ground := Ground.phase }, { on := 5, ground := Ground.phase }, { on := 6, ground := Ground.phase }, { on := 7, ground := Ground.phase }, { on := 8, ground := Ground.phase }, { on := 9, ground := Ground.phase }, { on := 10, ground := Ground.phase }, { on := 11, ground := Ground.phase }, { on := 12, ground := Ground.phase }], guard := none }) rfl (fun K hK => ?_) ?_
            ·
              have z0 : w7z.cell? ⟨q, 0, none⟩ = some (.slice none 0 0) := hbz.cell 0
              have z1 : w7z.cell? ⟨q, 1, none⟩ = some (.slice none 0 0) := hbz.cell 1
              have z2 : w7z.cell? ⟨q, 2, none⟩ = some (.slice none 0 0) := hbz.cell 2
              have z3 : w7z.cell? ⟨q, 3, none⟩ = some (.int .i64 0) := hbz.cell 3
              have zf := hbz.frozen
              go_simp
              refine hK.out _ _ ?_ (fun hHeld => ?_)
              · (try dsimp only); exact HKP.out _ (below_set (below_set (below_set (below_set hcur hbq _) hbq _) hbq _) hbq _)
              clear hK K
              refine wpAnyH_done (by kernel_rfl) ?_ _
              go_wp2_with (fail)
              go_meet
              case rel => exact mtm_set hbz hbq hcur hI5 hI6 hI7
            exact AllReadyH.nil
          exact AllReadyH.nil
        refine AllReadyH.cons (o := { dst := some 6, op := Op.alloc 35, type := 0, pos := "law.go:104", after := #[], guard := none }) rfl (fun K hK => ?_) ?_
        ·
          go_simp
          refine hK.out _ _ ?_ (fun hHeld => ?_)
          · (try dsimp only); exact HKP.out _ (hcur.alloc hcur.size _)
          clear hK K
          have hbz : Blk 35 (w6.alloc (Obj.cells #[Value.slice none 0 0, Value.slice none 0 0, Value.slice none 0 0, Value.int .i64 0] 35)) w6.heap.size [Value.slice none 0 0, Value.slice none 0 0, Value.slice none 0 0, Value.int .i64 0] := Blk.new w6 35 _
          have hbq : w1.heap.size ≤ w6.heap.size := hcur.size
          replace hcur := hcur.alloc hcur.size (Obj.cells #[Value.slice none 0 0, Value.slice none 0 0, Value.slice none 0 0, Value.int .i64 0] 35)
          replace hI5 := Vals.alloc hI5 (Obj.cells #[Value.slice none 0 0, Value.slice none 0 0, Value.slice none 0 0, Value.int .i64 0] 35)
          replace hI6 := Vals.alloc hI6 (Obj.cells #[Value.slice none 0 0, Value.slice none 0 0, Value.slice none 0 0, Value.int .i64 0] 35)
          generalize hq : w6.heap.size = q at *
          generalize w6.alloc (Obj.cells #[Value.slice none 0 0, Value.slice none 0 0, Value.slice none 0 0, Value.int .i64 0] 35) = w6z at *
          clear hq
          refine wpAnyH_ready (rs := [8]) (by kernel_rfl) (by simp) ?_
          refine AllReadyH.cons (o := { dst := some 22, op := Op.call { callee := Callee.value (Operand.func 22), args := #[Operand.tmp 21, Operand.const (Value.int IntKind.i64 66)], argTypes := #[23, 3] }, type := 23, pos := "law.go:104", after := #[{ on := 7, ground := Ground.data }, { on := 5, ground := Ground.chain }], guard := none }) rfl (fun K hK => ?_) ?_
          ·
            go_simp
            go_wp2_with (go_at_call 22; (with_reducible refine (HQ2.out _ (hl01.trans (hcur.mono hl01.size))).mono ?_); rintro e w7a ⟨v7, rfl, -, ⟨g7, cap7, rfl, hI7⟩, hl⟩)
            replace hcur := hcur.trans (hl.mono hcur.size)
            replace hI5 := Vals.keep hI5 hl
            replace hI6 := Vals.keep hI6 hl
            replace hbz := Blk.keep hbz hl
            clear hl
            refine hK.out _ _ ?_ (fun hHeld => ?_)
            · (try dsimp only); exact HKP.out _ hcur
            clear hK K
            refine wpAnyH_take (i := 11) (oi := { dst := some 25, op := Op.build 35 #[(0, Operand.tmp 16), (1, Operand.tmp 19), (2, Operand.tmp 22), (3, Operand.tmp 24)], type := 35, pos := "law.go:104", after := #[{ on := 2, ground := Ground.data }, { on := 5, ground := Ground.data }, { on := 8, ground := Ground.data }, { on := 10, ground := Ground.data }], guard := none }) (v := ?vq10) rfl (by kernel_rfl) (by kernel_rfl) (by kernel_rfl) (fun _ _ _ h => h) (Or.inl ⟨by rfl, ?yq10⟩) (by assumption) ?rq10
            case yq10 => (intro w hSw; (try dsimp only at hSw); go_simp; (try with_reducible rfl))
            try simp only [Act.put, List.setIfInBounds_toArray, List.set_cons_zero, List.set_cons_succ]
            refine wpAnyH_ready (rs := [13]) (by kernel_rfl) (by simp) ?_
            refine AllReadyH.cons (o := { dst := none, op := Op.store 35 (Operand.tmp 6) (Operand.tmp 25), type := 0, pos := "law.go:104", after := #[{ on := 12, ground := Ground.data }, { on := 11, ground := Ground.data }, { on := 8, ground := Ground.chain }, { on := 0, ground := Ground.phase }, { on := 1, ground := Ground.phase }, { on := 2, ground := Ground.phase }, { on := 3, ground := Ground.phase }, { on := 4, ground := Ground.phase }, { on := 5, ground := Ground.phase }, { on := 6, ground := Ground.phase }, { on := 7, ground := Ground.phase }, { on := 8, ground := Ground.phase }, { on := 9, ground := Ground.phase }, { on := 10, ground := Ground.phase }, { on := 11, ground := Ground.phase }, { on := 12, ground := Ground.phase }], guard := none }) rfl (fun K hK => ?_) ?_
            ·
              have z0 : w7a.cell? ⟨q, 0, none⟩ = some (.slice none 0 0) := hbz.cell 0
              have z1 : w7a.cell? ⟨q, 1, none⟩ = some (.slice none 0 0) := hbz.cell 1
              have z2 : w7a.cell? ⟨q, 2, none⟩ = some (.slice none 0 0) := hbz.cell 2
              have z3 : w7a.cell? ⟨q, 3, none⟩ = some (.int .i64 0) := hbz.cell 3
              have zf := hbz.frozen
              go_simp
              refine hK.out _ _ ?_ (fun hHeld => ?_)
              · (try dsimp only); exact HKP.out _ (below_set (below_set (below_set (below_set hcur hbq _) hbq _) hbq _) hbq _)
              clear hK K
              refine wpAnyH_done (by kernel_rfl) ?_ _
              go_wp2_with (fail)
              go_meet
              case rel => exact mtm_set hbz hbq hcur hI5 hI6 hI7
            exact AllReadyH.nil
          exact AllReadyH.nil
        exact AllReadyH.nil
      refine AllReadyH.cons (o := { dst := some 6, op := Op.alloc 35, type := 0, pos := "law.go:104", after := #[], guard := none }) rfl (fun K hK => ?_) ?_
      ·
        go_simp
        refine hK.out _ _ ?_ (fun hHeld => ?_)
        · (try dsimp only); exact HKP.out _ (hcur.alloc hcur.size _)
        clear hK K
        have hbz : Blk 35 (w5.alloc (Obj.cells #[Value.slice none 0 0, Value.slice none 0 0, Value.slice none 0 0, Value.int .i64 0] 35)) w5.heap.size [Value.slice none 0 0, Value.slice none 0 0, Value.slice none 0 0, Value.int .i64 0] := Blk.new w5 35 _
        have hbq : w1.heap.size ≤ w5.heap.size := hcur.size
        replace hcur := hcur.alloc hcur.size (Obj.cells #[Value.slice none 0 0, Value.slice none 0 0, Value.slice none 0 0, Value.int .i64 0] 35)
        replace hI5 := Vals.alloc hI5 (Obj.cells #[Value.slice none 0 0, Value.slice none 0 0, Value.slice none 0 0, Value.int .i64 0] 35)
        generalize hq : w5.heap.size = q at *
        generalize w5.alloc (Obj.cells #[Value.slice none 0 0, Value.slice none 0 0, Value.slice none 0 0, Value.int .i64 0] 35) = w5z at *
        clear hq
        refine wpAnyH_ready (rs := [5]) (by kernel_rfl) (by simp) ?_
        refine AllReadyH.cons (o := { dst := some 19, op := Op.call { callee := Callee.value (Operand.func 22), args := #[Operand.tmp 18, Operand.const (Value.int IntKind.i64 66)], argTypes := #[23, 3] }, type := 23, pos := "law.go:104", after := #[{ on := 4, ground := Ground.data }, { on := 2, ground := Ground.chain }], guard := none }) rfl (fun K hK => ?_) ?_
        ·
          go_simp
          go_wp2_with (go_at_call 22; (with_reducible refine (HQ1.out _ (hl01.trans (hcur.mono hl01.size))).mono ?_); rintro e w6a ⟨v6, rfl, -, ⟨g6, cap6, rfl, hI6⟩, hl⟩)
          replace hcur := hcur.trans (hl.mono hcur.size)
          replace hI5 := Vals.keep hI5 hl
          replace hbz := Blk.keep hbz hl
          clear hl
          refine hK.out _ _ ?_ (fun hHeld => ?_)
          · (try dsimp only); exact HKP.out _ hcur
          clear hK K
          refine wpAnyH_ready (rs := [8]) (by kernel_rfl) (by simp) ?_
          refine AllReadyH.cons (o := { dst := some 22, op := Op.call { callee := Callee.value (Operand.func 22), args := #[Operand.tmp 21, Operand.const (Value.int IntKind.i64 66)], argTypes := #[23, 3] }, type := 23, pos := "law.go:104", after := #[{ on := 7, ground := Ground.data }, { on := 5, ground := Ground.chain }], guard := none }) rfl (fun K hK => ?_) ?_
          ·
            go_simp
            go_wp2_with (go_at_call 22; (with_reducible refine (HQ2.out _ (hl01.trans (hcur.mono hl01.size))).mono ?_); rintro e w7a ⟨v7, rfl, -, ⟨g7, cap7, rfl, hI7⟩, hl⟩)
            replace hcur := hcur.trans (hl.mono hcur.size)
            replace hI5 := Vals.keep hI5 hl
            replace hI6 := Vals.keep hI6 hl
            replace hbz := Blk.keep hbz hl
            clear hl
            refine hK.out _ _ ?_ (fun hHeld => ?_)
            · (try dsimp only); exact HKP.out _ hcur
            clear hK K
            refine wpAnyH_take (i := 11) (oi := { dst := some 25, op := Op.build 35 #[(0, Operand.tmp 16), (1, Operand.tmp 19), (2, Operand.tmp 22), (3, Operand.tmp 24)], type := 35, pos := "law.go:104", after := #[{ on := 2, ground := Ground.data }, { on := 5, ground := Ground.data }, { on := 8, ground := Ground.data }, { on := 10, ground := Ground.data }], guard := none }) (v := ?vq11) rfl (by kernel_rfl) (by kernel_rfl) (by kernel_rfl) (fun _ _ _ h => h) (Or.inl ⟨by rfl, ?yq11⟩) (by assumption) ?rq11
            case yq11 => (intro w hSw; (try dsimp only at hSw); go_simp; (try with_reducible rfl))
            try simp only [Act.put, List.setIfInBounds_toArray, List.set_cons_zero, List.set_cons_succ]
            refine wpAnyH_ready (rs := [13]) (by kernel_rfl) (by simp) ?_
            refine AllReadyH.cons (o := { dst := none, op := Op.store 35 (Operand.tmp 6) (Operand.tmp 25), type := 0, pos := "law.go:104", after := #[{ on := 12, ground := Ground.data }, { on := 11, ground := Ground.data }, { on := 8, ground := Ground.chain }, { on := 0, ground := Ground.phase }, { on := 1, ground := Ground.phase }, { on := 2, ground := Ground.phase }, { on := 3, ground := Ground.phase }, { on := 4, ground := Ground.phase }, { on := 5, ground := Ground.phase }, { on := 6, ground := Ground.phase }, { on := 7, ground := Ground.phase }, { on := 8, ground := Ground.phase }, { on := 9, ground := Ground.phase }, { on := 10, ground := Ground.phase }, { on := 11, ground := Ground.phase }, { on := 12, ground := Ground.phase }], guard := none }) rfl (fun K hK => ?_) ?_
            ·
              have z0 : w7a.cell? ⟨q, 0, none⟩ = some (.slice none 0 0) := hbz.cell 0
              have z1 : w7a.cell? ⟨q, 1, none⟩ = some (.slice none 0 0) := hbz.cell 1
              have z2 : w7a.cell? ⟨q, 2, none⟩ = some (.slice none 0 0) := hbz.cell 2
              have z3 : w7a.cell? ⟨q, 3, none⟩ = some (.int .i64 0) := hbz.cell 3
              have zf := hbz.frozen
              go_simp
              refine hK.out _ _ ?_ (fun hHeld => ?_)
              · (try dsimp only); exact HKP.out _ (below_set (below_set (below_set (below_set hcur hbq _) hbq _) hbq _) hbq _)
              clear hK K
              refine wpAnyH_done (by kernel_rfl) ?_ _
              go_wp2_with (fail)
              go_meet
              case rel => exact mtm_set hbz hbq hcur hI5 hI6 hI7
            exact AllReadyH.nil
          exact AllReadyH.nil
        exact AllReadyH.nil
      exact AllReadyH.nil
    refine AllReadyH.cons (o := { dst := some 6, op := Op.alloc 35, type := 0, pos := "law.go:104", after := #[], guard := none }) rfl (fun K hK => ?_) ?_
    ·
      go_simp
      refine hK.out _ _ ?_ (fun hHeld => ?_)
      · (try dsimp only); exact HKP.out _ (hcur.alloc hcur.size _)
      clear hK K
      have hbz : Blk 35 (V.alloc (Obj.cells #[Value.slice none 0 0, Value.slice none 0 0, Value.slice none 0 0, Value.int .i64 0] 35)) V.heap.size [Value.slice none 0 0, Value.slice none 0 0, Value.slice none 0 0, Value.int .i64 0] := Blk.new V 35 _
      have hbq : w1.heap.size ≤ V.heap.size := hcur.size
      replace hcur := hcur.alloc hcur.size (Obj.cells #[Value.slice none 0 0, Value.slice none 0 0, Value.slice none 0 0, Value.int .i64 0] 35)
      generalize hq : V.heap.size = q at *
      generalize V.alloc (Obj.cells #[Value.slice none 0 0, Value.slice none 0 0, Value.slice none 0 0, Value.int .i64 0] 35) = Vz at *
      clear hq
      refine wpAnyH_ready (rs := [2]) (by kernel_rfl) (by simp) ?_
      refine AllReadyH.cons (o := { dst := some 16, op := Op.call { callee := Callee.value (Operand.func 22), args := #[Operand.tmp 15, Operand.const (Value.int IntKind.i64 66)], argTypes := #[23, 3] }, type := 23, pos := "law.go:104", after := #[{ on := 1, ground := Ground.data }], guard := none }) rfl (fun K hK => ?_) ?_
      ·
        go_simp
        go_wp2_with (go_at_call 22; (with_reducible refine (HQ0.out _ (hl01.trans (hcur.mono hl01.size))).mono ?_); rintro e w5a ⟨v5, rfl, -, ⟨g5, cap5, rfl, hI5⟩, hl⟩)
        replace hcur := hcur.trans (hl.mono hcur.size)
        replace hbz := Blk.keep hbz hl
        clear hl
        refine hK.out _ _ ?_ (fun hHeld => ?_)
        · (try dsimp only); exact HKP.out _ hcur
        clear hK K
        refine wpAnyH_ready (rs := [5]) (by kernel_rfl) (by simp) ?_
        refine AllReadyH.cons (o := { dst := some 19, op := Op.call { callee := Callee.value (Operand.func 22), args := #[Operand.tmp 18, Operand.const (Value.int IntKind.i64 66)], argTypes := #[23, 3] }, type := 23, pos := "law.go:104", after := #[{ on := 4, ground := Ground.data }, { on := 2, ground := Ground.chain }], guard := none }) rfl (fun K hK => ?_) ?_
        ·
          go_simp
          go_wp2_with (go_at_call 22; (with_reducible refine (HQ1.out _ (hl01.trans (hcur.mono hl01.size))).mono ?_); rintro e w6a ⟨v6, rfl, -, ⟨g6, cap6, rfl, hI6⟩, hl⟩)
          replace hcur := hcur.trans (hl.mono hcur.size)
          replace hI5 := Vals.keep hI5 hl
          replace hbz := Blk.keep hbz hl
          clear hl
          refine hK.out _ _ ?_ (fun hHeld => ?_)
          · (try dsimp only); exact HKP.out _ hcur
          clear hK K
          refine wpAnyH_ready (rs := [8]) (by kernel_rfl) (by simp) ?_
          refine AllReadyH.cons (o := { dst := some 22, op := Op.call { callee := Callee.value (Operand.func 22), args := #[Operand.tmp 21, Operand.const (Value.int IntKind.i64 66)], argTypes := #[23, 3] }, type := 23, pos := "law.go:104", after := #[{ on := 7, ground := Ground.data }, { on := 5, ground := Ground.chain }], guard := none }) rfl (fun K hK => ?_) ?_
          ·
            go_simp
            go_wp2_with (go_at_call 22; (with_reducible refine (HQ2.out _ (hl01.trans (hcur.mono hl01.size))).mono ?_); rintro e w7a ⟨v7, rfl, -, ⟨g7, cap7, rfl, hI7⟩, hl⟩)
            replace hcur := hcur.trans (hl.mono hcur.size)
            replace hI5 := Vals.keep hI5 hl
            replace hI6 := Vals.keep hI6 hl
            replace hbz := Blk.keep hbz hl
            clear hl
            refine hK.out _ _ ?_ (fun hHeld => ?_)
            · (try dsimp only); exact HKP.out _ hcur
            clear hK K
            refine wpAnyH_take (i := 11) (oi := { dst := some 25, op := Op.build 35 #[(0, Operand.tmp 16), (1, Operand.tmp 19), (2, Operand.tmp 22), (3, Operand.tmp 24)], type := 35, pos := "law.go:104", after := #[{ on := 2, ground := Ground.data }, { on := 5, ground := Ground.data }, { on := 8, ground := Ground.data }, { on := 10, ground := Ground.data }], guard := none }) (v := ?vq12) rfl (by kernel_rfl) (by kernel_rfl) (by kernel_rfl) (fun _ _ _ h => h) (Or.inl ⟨by rfl, ?yq12⟩) (by assumption) ?rq12
            case yq12 => (intro w hSw; (try dsimp only at hSw); go_simp; (try with_reducible rfl))
            try simp only [Act.put, List.setIfInBounds_toArray, List.set_cons_zero, List.set_cons_succ]
            refine wpAnyH_ready (rs := [13]) (by kernel_rfl) (by simp) ?_
            refine AllReadyH.cons (o := { dst := none, op := Op.store 35 (Operand.tmp 6) (Operand.tmp 25), type := 0, pos := "law.go:104", after := #[{ on := 12, ground := Ground.data }, { on := 11, ground := Ground.data }, { on := 8, ground := Ground.chain }, { on := 0, ground := Ground.phase }, { on := 1, ground := Ground.phase }, { on := 2, ground := Ground.phase }, { on := 3, ground := Ground.phase }, { on := 4, ground := Ground.phase }, { on := 5, ground := Ground.phase }, { on := 6, ground := Ground.phase }, { on := 7, ground := Ground.phase }, { on := 8, ground := Ground.phase }, { on := 9, ground := Ground.phase }, { on := 10, ground := Ground.phase }, { on := 11, ground := Ground.phase }, { on := 12, ground := Ground.phase }], guard := none }) rfl (fun K hK => ?_) ?_
            ·
              have z0 : w7a.cell? ⟨q, 0, none⟩ = some (.slice none 0 0) := hbz.cell 0
              have z1 : w7a.cell? ⟨q, 1, none⟩ = some (.slice none 0 0) := hbz.cell 1
              have z2 : w7a.cell? ⟨q, 2, none⟩ = some (.slice none 0 0) := hbz.cell 2
              have z3 : w7a.cell? ⟨q, 3, none⟩ = some (.int .i64 0) := hbz.cell 3
              have zf := hbz.frozen
              go_simp
              refine hK.out _ _ ?_ (fun hHeld => ?_)
              · (try dsimp only); exact HKP.out _ (below_set (below_set (below_set (below_set hcur hbq _) hbq _) hbq _) hbq _)
              clear hK K
              refine wpAnyH_done (by kernel_rfl) ?_ _
              go_wp2_with (fail)
              go_meet
              case rel => exact mtm_set hbz hbq hcur hI5 hI6 hI7
            exact AllReadyH.nil
          exact AllReadyH.nil
        exact AllReadyH.nil
      exact AllReadyH.nil
    exact AllReadyH.nil
  case rest =>
  clear x0 x1 x2 x3 HKP HQ0 HQ1 HQ2
  obtain ⟨q, a0, a1, a2, k0, k1, k2, rfl, M⟩ := hcut
  have HM := Lib.hid M
  have hlc := M.bel
  have hl0c := hl01.trans (hlc.mono hl01.size)
  have HTC := Lib.hid (HT.out.keep hlc)
  have y0 := M.box.cell 0
  have y1 := M.box.cell 1
  have y2 := M.box.cell 2
  have y3 := M.box.cell 3
  simp only [List.getElem?_cons_zero, List.getElem?_cons_succ] at y0 y1 y2 y3
  obtain ⟨N, hN⟩ : ∃ N, N = ts.length := ⟨_, rfl⟩
  obtain ⟨L0', hL0'⟩ : ∃ k, k = l.length := ⟨_, rfl⟩
  obtain ⟨L1', hL1'⟩ : ∃ k, k = us.length := ⟨_, rfl⟩
  obtain ⟨L2', hL2'⟩ : ∃ k, k = vs.length := ⟨_, rfl⟩
  rw [← hN]
  rw [← hL0'] at y0 hl66
  rw [← hL1'] at y1
  rw [← hL2'] at y2
  have HN := Lib.hid hN
  have HL0 := Lib.hid hL0'
  have HL1 := Lib.hid hL1'
  have HL2 := Lib.hid hL2'
  clear HT M hN hL0' hL1' hL2'
  cases hchk : chkT ts with
  | false =>
    have hce : ckE ts = 1 := by unfold ckE; rw [hchk]; rfl
    have hpv := mproves_a cap k0 k1 k2 N L0' L1' L2' (some ⟨g, 0, none⟩) (some ⟨a0, 0, none⟩) (some ⟨a1, 0, none⟩) (some ⟨a2, 0, none⟩) ts cost wc HTC.out.tab HN.out hchk
    have HPV := Lib.hid hpv
    have HCE := Lib.hid hce
    clear hpv hce hchk
    go_wp2_with (fail)
    refine (HPV.out).mono ?_
    rintro e w5 ⟨hl5, rfl⟩
    have hl05 := hl0c.trans (hl5.mono hl0c.size)
    have hck := refCheck_any w5.heap.size (some ⟨g, 0, none⟩) cap N ts w5 (HTC.out.keep hl5).tab HN.out
    rw [HCE.out] at hck
    have HCK := Lib.hid hck
    clear hck
    go_wp2_with (fail)
    refine (HCK.out).mono ?_
    rintro e w6 ⟨rfl, hl6⟩
    have hl06 := hl05.trans (hl6.mono hl05.size)
    go_wp2_with (go_at_call 26; refine (lives_any _).mono ?_; rintro e w7 ⟨rfl, hl7⟩)
    go_ret
    exact ⟨rfl, hl06.trans (hl7.mono hl06.size)⟩
  | true =>
    have hce : ckE ts = 0 := by unfold ckE; rw [hchk]; rfl
    obtain ⟨n, m, hn, -, d1, d2, d3, G⟩ := chkT_good hchk
    obtain rfl : n = N := by have := HN.out; omega
    have hpv := mproves_any cap k0 k1 k2 n m L0' L1' L2' (some ⟨g, 0, none⟩) (some ⟨a0, 0, none⟩) (some ⟨a1, 0, none⟩) (some ⟨a2, 0, none⟩) ts l us vs cost wc HTC.out.tab HM.out.r0 HM.out.r1 HM.out.r2 G d1 d2 d3 hchk HL0.out HL1.out HL2.out
    have HPV := Lib.hid hpv
    have HCE := Lib.hid hce
    have HG := Lib.hid G
    clear hpv hce hchk G hn
    go_wp2_with (fail)
    refine (HPV.out).mono ?_
    intro e w5 hp5
    have hl5 := hp5.1
    have hcase := hp5.2
    have hl05 := hl0c.trans (hl5.mono hl0c.size)
    have M5 := HM.out.keep hl5
    have hT5 := HTC.out.keep hl5
    have hck := refCheck_any w5.heap.size (some ⟨g, 0, none⟩) cap n ts w5 hT5.tab HN.out
    rw [HCE.out] at hck
    have hkp : ∀ W, Below w5.heap.size w5 W → MtM w1 W q a0 a1 a2 k0 k1 k2 l us vs cost ∧ OwnT W g ts := fun W h => ⟨M5.keep h, hT5.keep h⟩
    have HKP := Lib.hid hkp
    have HCK := Lib.hid hck
    clear hp5 M5 hT5 hck hkp y0 y1 y2 y3 HPV
    rcases hcase with ⟨hbad, rfl⟩ | ⟨⟨hI, hx, hy⟩, hcase⟩
    · have HBAD := Lib.hid hbad
      clear hbad
      go_wp2_with (fail)
      refine (HCK.out).mono ?_
      rintro e w6 ⟨rfl, hl6⟩
      have hl06 := hl05.trans (hl6.mono hl05.size)
      obtain ⟨M6, hT6⟩ := HKP.out w6 hl6
      have y0 : w6.cell? ⟨q, 0, none⟩ = some (.slice (some ⟨a0, 0, none⟩) L0' k0) := by rw [HL0.out]; exact M6.box.cell 0
      have hto := refTotal_any w6.heap.size n m cap k0 L0' (some ⟨g, 0, none⟩) (some ⟨a0, 0, none⟩) ts l w6 hT6.tab HG.out M6.r0 HL0.out d1 d2 d3 (by omega)
      have HTO := Lib.hid hto
      clear M6 hT6 hto HCK
      go_wp2_with (fail)
      refine (HTO.out).mono ?_
      intro e w7 hp7
      have hl7 := hp7.1
      have hl57 := hl6.trans (hl7.mono hl6.size)
      have hl07 := hl06.trans (hl7.mono hl06.size)
      obtain ⟨M7, hT7⟩ := HKP.out w7 hl57
      have z1 : w7.cell? ⟨q, 1, none⟩ = some (.slice (some ⟨a1, 0, none⟩) L1' k1) := by rw [HL1.out]; exact M7.box.cell 1
      have z2 : w7.cell? ⟨q, 2, none⟩ = some (.slice (some ⟨a2, 0, none⟩) L2' k2) := by rw [HL2.out]; exact M7.box.cell 2
      obtain ⟨g', off', A0', c0', eA, -, hc0, -⟩ := HG.out.at_ hT7.tab (i := 0) (by omega)
      injection eA with eA
      injection eA with e1 e2
      subst e1 e2
      have hc0' : w7.cell? ⟨g, 0, none⟩ = some (.slice A0' m c0') := hc0
      have hnI : (0 : Int) < (n : Int) := by omega
      have hnN : 0 < n := by omega
      have hp7' := hp7.2
      clear M7 hT7 hc0 hp7 HTO y0
      rcases hp7' with ⟨ha, rfl⟩ | ⟨hna, rfl⟩
      · by_cases hx : L1' = n
        · have hy : L2' ≠ m := fun hy => HBAD.out ⟨ha, hx, hy⟩
          have b1 : ((L1' : Int) != (n : Int)) = false := by simp; omega
          have b2 : ((L2' : Int) != (m : Int)) = true := by simp; omega
          clear ha hx hy
          go_wp2_with (fail)
          go_quiet (fail)
          go_wp2_with (go_at_call 26; refine (lives_any _).mono ?_; rintro e w8 ⟨rfl, hl8⟩)
          have hl07' := below_drewN hl07 nq
          go_ret
          exact ⟨rfl, hl07'.trans (hl8.mono hl07'.size)⟩
        · have b1 : ((L1' : Int) != (n : Int)) = true := by simp; omega
          clear ha hx
          go_wp2_with (fail)
          go_quiet (fail)
          go_wp2_with (go_at_call 26; refine (lives_any _).mono ?_; rintro e w8 ⟨rfl, hl8⟩)
          have hl07' := below_drewN hl07 nq
          go_ret
          exact ⟨rfl, hl07'.trans (hl8.mono hl07'.size)⟩
      · clear hna
        go_wp2_with (fail)
        go_quiet (fail)
        go_wp2_with (go_at_call 26; refine (lives_any _).mono ?_; rintro e w8 ⟨rfl, hl8⟩)
        have hl07' := below_drewN hl07 nq
        go_ret
        exact ⟨rfl, hl07'.trans (hl8.mono hl07'.size)⟩
    · have HI := Lib.hid hI
      have hx2 := hx
      have hy2 := hy
      subst hx2
      subst hy2
      have HCASE : ∃ b : Bool, (b = true ↔ PrvP L1' L2' (cst ts) l us vs cost) ∧ e = .returned (.tuple #[.bool b, .int .i64 0]) := by
        rcases hcase with ⟨h, rfl⟩ | ⟨h, rfl⟩
        · exact ⟨true, ⟨fun _ => h, fun _ => rfl⟩, rfl⟩
        · exact ⟨false, ⟨fun e => (by cases e), fun k => absurd k h⟩, rfl⟩
      obtain ⟨b, hb, rfl⟩ := HCASE
      have HBP := Lib.hid hb
      clear hcase hI hx hy hb
      go_wp2_with (fail)
      refine (HCK.out).mono ?_
      rintro e w6 ⟨rfl, hl6⟩
      have hl06 := hl05.trans (hl6.mono hl05.size)
      obtain ⟨M6, hT6⟩ := HKP.out w6 hl6
      have y0 : w6.cell? ⟨q, 0, none⟩ = some (.slice (some ⟨a0, 0, none⟩) L0' k0) := by rw [HL0.out]; exact M6.box.cell 0
      have hto := refTotal_any w6.heap.size L1' L2' cap k0 L0' (some ⟨g, 0, none⟩) (some ⟨a0, 0, none⟩) ts l w6 hT6.tab HG.out M6.r0 HL0.out d1 d2 d3 (by omega)
      have HTO := Lib.hid hto
      clear M6 hT6 hto HCK
      go_wp2_with (fail)
      refine (HTO.out).mono ?_
      rintro e w7 ⟨hl7, ⟨-, rfl⟩ | ⟨hna, rfl⟩⟩
      · have hl57 := hl6.trans (hl7.mono hl6.size)
        have hl07 := hl06.trans (hl7.mono hl06.size)
        obtain ⟨M7, hT7⟩ := HKP.out w7 hl57
        have z1 : w7.cell? ⟨q, 1, none⟩ = some (.slice (some ⟨a1, 0, none⟩) L1' k1) := by rw [HL1.out]; exact M7.box.cell 1
        have z2 : w7.cell? ⟨q, 2, none⟩ = some (.slice (some ⟨a2, 0, none⟩) L2' k2) := by rw [HL2.out]; exact M7.box.cell 2
        have z0 : w7.cell? ⟨q, 0, none⟩ = some (.slice (some ⟨a0, 0, none⟩) L0' k0) := by rw [HL0.out]; exact M7.box.cell 0
        have z3 : w7.cell? ⟨q, 3, none⟩ = some (.int .i64 cost) := M7.box.cell 3
        obtain ⟨g', off', A0', c0', eA, -, hc0, -⟩ := HG.out.at_ hT7.tab (i := 0) (by omega)
        injection eA with eA
        injection eA with e1 e2
        subst e1 e2
        have hc0' : w7.cell? ⟨g, 0, none⟩ = some (.slice A0' L2' c0') := hc0
        have hnI : (0 : Int) < (L1' : Int) := by omega
        have hnN : 0 < L1' := by omega
        have b1 : ((L1' : Int) != (L1' : Int)) = false := by simp
        have b2 : ((L2' : Int) != (L2' : Int)) = false := by simp
        have hl0n : L0' = L1' := by rw [HL0.out]; exact HI.out.len
        subst hl0n
        have hrp := fun W (h : Below w7.heap.size w7 W) => rproves_any W.heap.size cap k0 k1 k2 L0' L2' (some ⟨g, 0, none⟩) (some ⟨a0, 0, none⟩) (some ⟨a1, 0, none⟩) (some ⟨a2, 0, none⟩) ts l us vs cost W (HKP.out W (hl57.trans (h.mono hl57.size))).2.tab (Nat.le_refl _) (HKP.out W (hl57.trans (h.mono hl57.size))).1.r0 (HKP.out W (hl57.trans (h.mono hl57.size))).1.r1 (HKP.out W (hl57.trans (h.mono hl57.size))).1.r2 HG.out d1 d2 d3 HL1.out HL2.out HI.out
        have HRP := Lib.hid hrp
        clear M7 hT7 hc0 HTO y0 hrp
        go_wp2_with (fail)
        go_quiet (fail)
        go_wp2_with (fail)
        refine (HRP.out _ (below_drewN (Below.refl _ _) _)).mono ?_
        rintro e w8 ⟨hl8, hcs⟩
        have hl08 := (below_drewN hl07 nq).trans (hl8.mono (below_drewN hl07 nq).size)
        rcases hcs with ⟨hP, rfl⟩ | ⟨hP, rfl⟩
        · obtain rfl : b = true := HBP.out.2 hP
          clear hP
          go_wp2_with (go_at_call 26; refine (lives_any _).mono ?_; rintro e w9 ⟨rfl, hl9⟩)
          go_ret
          exact ⟨rfl, hl08.trans (hl9.mono hl08.size)⟩
        · obtain rfl : b = false := by
            cases hb : b with
            | false => rfl
            | true => exact absurd (HBP.out.1 hb) hP
          clear hP
          go_wp2_with (go_at_call 26; refine (lives_any _).mono ?_; rintro e w9 ⟨rfl, hl9⟩)
          go_ret
          exact ⟨rfl, hl08.trans (hl9.mono hl08.size)⟩
      · exact absurd HI.out hna
end Go.Proofs.Ytncmfjncdhhjoaa
