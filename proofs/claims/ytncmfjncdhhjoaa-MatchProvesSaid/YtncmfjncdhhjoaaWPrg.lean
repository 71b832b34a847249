/- The reference's Proves, of any matching whose To is an assignment. -/
import Derived.Test.YtncmfjncdhhjoaaWPrm
namespace Go.Proofs.Ytncmfjncdhhjoaa
open Go.RowKit

/-- Prices and cost prove an assignment. -/
def PrvP (n m : Nat) (c : Nat → Nat → Int) (l us vs : List Int) (cost : Int) : Prop := costN c (colOf l) n = cost ∧ ColsP m l vs ∧ RowsP n m c l us vs
def PrvPost (n m : Nat) (c : Nat → Nat → Int) (l us vs : List Int) (cost : Int) (w : World) (e : Ending) (w' : World) : Prop :=
  Below w.heap.size w w' ∧ ((PrvP n m c l us vs cost ∧ e = .returned (.bool true)) ∨ (¬ PrvP n m c l us vs cost ∧ e = .returned (.bool false)))

set_option maxHeartbeats 8000000 in
set_option maxRecDepth 100000 in
theorem rproves_any (B cA c0 c1 c2 n m : Nat) (A A0 A1 A2 : Option Addr) (ls : List (List Int)) (l us vs : List Int) (cost : Int) (w : World) (T : Tab B w A ls) (hB : B ≤ w.heap.size) (h0 : Ints w A0 l) (h1 : Ints w A1 us) (h2 : Ints w A2 vs)
    (G : Good n m ls) (d1 : 1 ≤ n) (d2 : n ≤ m) (d3 : m ≤ 64) (hL1 : n = us.length) (hL2 : m = vs.length) (hI : IsAsg n m (cst ls) l) :
    Calls Try.prog 34 #[.slice A n cA, .agg #[.slice A0 n c0, .slice A1 n c1, .slice A2 m c2, .int .i64 cost]] w (PrvPost n m (cst ls) l us vs cost w) := by
  obtain ⟨O, hO⟩ : ∃ O, O = Obj.cells #[.slice A0 n c0, .slice A1 n c1, .slice A2 m c2, .int .i64 cost] 35 := ⟨_, rfl⟩
  have hbx : Blk 35 (w.alloc O) w.heap.size [.slice A0 n c0, .slice A1 n c1, .slice A2 m c2, .int .i64 cost] := by rw [hO]; exact Blk.new w 35 _
  have hlW := below_new w O
  have T' := T.keep (hlW.mono hB)
  have hl0 : n = l.length := hI.len.symm
  have h0' := Vals.keep h0 hlW
  have h1' := Vals.keep h1 hlW
  have h2' := Vals.keep h2 hlW
  have hto := (refTotal_any B n m cA c0 n A A0 ls l (w.alloc O) T' G h0' hl0 d1 d2 d3 (by omega)).mono (fun e w' h => (⟨h.1, by
    rcases h.2 with ⟨_, h⟩ | ⟨h, _⟩
    · exact h
    · exact absurd hI h⟩ : Below (w.alloc O).heap.size (w.alloc O) w' ∧ e = .returned (.tuple #[.int .i64 (costN (cst ls) (colOf l) n), .bool true])))
  have hkb : ∀ W, Below (w.alloc O).heap.size (w.alloc O) W → Blk 35 W w.heap.size [.slice A0 n c0, .slice A1 n c1, .slice A2 m c2, .int .i64 cost] ∧ Tab B W A ls ∧ Ints W A0 l ∧ Ints W A1 us ∧ Ints W A2 vs := fun W h =>
    ⟨hbx.keep h, T'.keep (h.mono (Nat.le_trans hB hlW.size)), Vals.keep h0' h, Vals.keep h1' h, Vals.keep h2' h⟩
  have hPD : PrvP n m (cst ls) l us vs cost ↔ (costN (cst ls) (colOf l) n = cost ∧ ColsP m l vs ∧ RowsP n m (cst ls) l us vs) := Iff.rfl
  have HPD := Lib.hid hPD
  generalize costN (cst ls) (colOf l) n = sm at *
  have HTO := Lib.hid hto
  have HKB := Lib.hid hkb
  have HG := Lib.hid G
  have HL0 := Lib.hid hl0
  have HL1 := Lib.hid hL1
  have HL2 := Lib.hid hL2
  have HI := Lib.hid hI
  have x0 := hbx.cell 0
  clear hbx h0 h1 h2 T T' hL1 hL2 hto G h0' h1' h2' hl0 hI hkb hPD
  subst hO
  unfold PrvPost
  go_enter Try.func34, Try.ntmps34
  go_wp2_with (go_at_call 27; refine (HTO.out).mono ?_; rintro e w5 ⟨hl5, rfl⟩
               have hl05 := hlW.trans (hl5.mono hlW.size)
               obtain ⟨hbx, hT, h0, h1, h2⟩ := HKB.out w5 hl5
               have x1 : w5.cell? ⟨w.heap.size, 1, none⟩ = some (.slice A1 n c1) := hbx.cell 1
               have x2 : w5.cell? ⟨w.heap.size, 2, none⟩ = some (.slice A2 m c2) := hbx.cell 2
               have x3 : w5.cell? ⟨w.heap.size, 3, none⟩ = some (.int .i64 cost) := hbx.cell 3
               have y0 : w5.cell? ⟨w.heap.size, 0, none⟩ = some (.slice A0 n c0) := hbx.cell 0
               have H0 := Lib.hid h0
               have H1 := Lib.hid h1
               have H2 := Lib.hid h2
               have HT := Lib.hid hT
               by_cases hsc : sm = cost
               have hscb : (sm != cost) = false := by simpa using hsc
               have HSC := Lib.hid hsc
               rotate_left
               have hscb : (sm != cost) = true := by simpa using hsc
               have HSC := Lib.hid hsc
               rotate_left
               all_goals clear hbx hT h0 h1 h2 x0 HTO hsc)
  rotate_left
  · go_ret
    exact ⟨hl05, .inr ⟨fun h => HSC.out (HPD.out.1 h).1, rfl⟩⟩
  go_loopw [8] (fun t wr => ∃ i z : Nat, i ≤ n ∧ t = .int .i64 (i : Int) ∧ Hid (∀ b, b < i → inB (us.getD b 0) (-2000000000000000000) 2000000000000000000 = true) ∧ wr = w5.drewN z) (fun t _ => n - (intOf t).toNat)
  case atStart => exact ⟨0, 0, Nat.zero_le _, rfl, Lib.hid (fun b hb => by omega), rfl⟩
  case round =>
    obtain ⟨i, z, hi, rfl, HUS, rfl⟩ := hrel
    by_cases hlt : i < n
    · have hiI : (i : Int) < (n : Int) := by omega
      obtain ⟨g1, off1, u, rfl, hg1, hu, hcu⟩ := Ints.at_ H1.out (i := i) (by have := HL1.out; omega)
      have hgu : us.getD i 0 = u := by rw [List.getD_eq_getElem?_getD, hu]; rfl
      have hwi := fun W => in_any u (-2000000000000000000) 2000000000000000000 W
      cases hbu : inB u (-2000000000000000000) 2000000000000000000 with
      | false =>
        rw [hbu] at hwi
        have HW := Lib.hid hwi
        have HNO : Hid (¬ PrvP n m (cst ls) l us vs cost) := Lib.hid (fun h => by
          have := ((HPD.out.1 h).2.2 i hlt).1
          rw [hgu, hbu] at this; cases this)
        clear hu hgu hbu hwi
        go_wp2_with (go_at_call 47; refine (HW.out _).mono ?_; rintro e w6 ⟨rfl, rfl⟩)
        go_ret
        exact ⟨below_drewN hl05 _, .inr ⟨HNO.out, rfl⟩⟩
      | true =>
        rw [hbu] at hwi
        have HW := Lib.hid hwi
        have HUS2 : Hid (∀ b, b < i + 1 → inB (us.getD b 0) (-2000000000000000000) 2000000000000000000 = true) := Lib.hid (fun b hb => by
          by_cases e : b = i
          · subst e; rw [hgu]; exact hbu
          · exact HUS.out b (by omega))
        clear hu hgu hbu hwi
        go_wp2_with (go_at_call 47; refine (HW.out _).mono ?_; rintro e w6 ⟨rfl, rfl⟩)
        go_roundw
        case rel => exact ⟨i + 1, _, by omega, by go_num, HUS2, rfl⟩
        case measure => simp [intOf]; omega
    · obtain rfl : i = n := by omega
      go_wp2_with (fail)
      go_loopw [9, 10, 11] (fun t _ _ wr => ∃ k y : Nat, k ≤ m ∧ t = .int .i64 (k : Int) ∧ Hid (ColsTo m l vs k) ∧ wr = w5.drewN y) (fun t _ _ _ => m - (intOf t).toNat)
      case atStart => exact ⟨0, z, Nat.zero_le _, rfl, Lib.hid (fun k hk => by omega), rfl⟩
      case round =>
        obtain ⟨k, y, hk, rfl, HCT, rfl⟩ := hrel
        by_cases hlk : k < m
        · have hkI : (k : Int) < (m : Int) := by omega
          obtain ⟨g2, off2, v, rfl, hg2, hv2, hcv⟩ := Ints.at_ H2.out (i := k) (by have := HL2.out; omega)
          have hgv : vs.getD k 0 = v := by rw [List.getD_eq_getElem?_getD, hv2]; rfl
          have hwi := fun W => in_any v (-2000000000000000000) 0 W
          have HGV := Lib.hid hgv
          have HW := Lib.hid hwi
          clear hv2 hgv hwi
          go_wp2_with (fail)
          go_loopw [10, 11] (fun s t wr => ∃ (a q : Nat) (b : Bool), a ≤ i ∧ t = .int .i64 (a : Int) ∧ s = .bool b ∧ Hid (b = true ↔ ∃ j, j < a ∧ l.getD j 0 = (k : Int)) ∧ wr = w5.drewN q) (fun _ t _ => i - (intOf t).toNat)
          case atStart => exact ⟨0, y, false, Nat.zero_le _, rfl, rfl, Lib.hid (by simp), rfl⟩
          case round =>
            obtain ⟨a, q, b, ha, rfl, rfl, HU, rfl⟩ := hrel
            by_cases hla : a < i
            · have haI : (a : Int) < (i : Int) := by omega
              obtain ⟨g0, off0, x, rfl, hg0, hx, hcx⟩ := Ints.at_ H0.out (i := a) (by have := HL0.out; omega)
              have hgx : l.getD a 0 = x := by rw [List.getD_eq_getElem?_getD, hx]; rfl
              have HN : Hid ((b || (x == (k : Int))) = true ↔ ∃ j, j < a + 1 ∧ l.getD j 0 = (k : Int)) := Lib.hid (by
                rw [Bool.or_eq_true, HU.out]
                constructor
                · rintro (⟨j, hj, e⟩ | e)
                  · exact ⟨j, by omega, e⟩
                  · exact ⟨a, by omega, by rw [hgx]; simpa using e⟩
                · rintro ⟨j, hj, e⟩
                  by_cases e2 : j = a
                  · subst e2; rw [hgx] at e; exact .inr (by simpa using e)
                  · exact .inl ⟨j, by omega, e⟩)
              clear hx hgx
              generalize hxk : (x == (k : Int)) = e at *
              have HXK := Lib.hid hxk
              cases b <;>
                · go_wp2_with (fail)
                  go_roundw
                  case rel => exact ⟨a + 1, _, _, by omega, by go_num, rfl, by simpa using HN, rfl⟩
                  case measure => simp [intOf]; omega
            · obtain rfl : a = i := by omega
              have hub : b = false → ∀ j, j < l.length → l.getD j 0 ≠ (k : Int) := fun hb j hj e => by
                have := HU.out.2 ⟨j, by rw [HL0.out]; exact hj, e⟩
                rw [hb] at this; cases this
              have hut : b = true → ¬ ∀ j, j < l.length → l.getD j 0 ≠ (k : Int) := fun hb h => by
                obtain ⟨j, hj, e⟩ := HU.out.1 hb
                exact h j (by rw [← HL0.out]; exact hj) e
              have HNX : inB v (-2000000000000000000) 0 = true → ((∀ j, j < l.length → l.getD j 0 ≠ (k : Int)) → v = 0) → Hid (ColsTo m l vs (k + 1)) := fun h1 h2 => Lib.hid (fun j hj => by
                by_cases e : j = k
                · subst e; rw [HGV.out]; exact ⟨h1, h2⟩
                · exact HCT.out j (by omega))
              have HNO : (inB v (-2000000000000000000) 0 = false ∨ ((∀ j, j < l.length → l.getD j 0 ≠ (k : Int)) ∧ v ≠ 0)) → Hid (¬ PrvP a m (cst ls) l us vs cost) := fun h1 => Lib.hid (fun h => by
                obtain ⟨q1, q2⟩ := (HPD.out.1 h).2.1 k hlk
                rw [HGV.out] at q1 q2
                rcases h1 with h1 | ⟨h1, h2⟩
                · rw [h1] at q1; cases q1
                · exact h2 (q2 h1))
              clear HU
              cases hbx : inB v (-2000000000000000000) 0 with
              | false =>
                rw [hbx] at HW
                have HN := HNO (.inl hbx)
                clear HNX HNO hub hut hbx
                go_wp2_with (go_at_call 47; refine (HW.out _).mono ?_; rintro e w6 ⟨rfl, rfl⟩)
                go_ret
                exact ⟨below_drewN hl05 _, .inr ⟨HN.out, rfl⟩⟩
              | true =>
                rw [hbx] at HW
                cases b with
                | true =>
                  have HN := HNX hbx (fun h => absurd h (hut rfl))
                  clear HNX HNO hub hut hbx
                  go_wp2_with (go_at_call 47; refine (HW.out _).mono ?_; rintro e w6 ⟨rfl, rfl⟩)
                  go_roundw
                  case rel => exact ⟨k + 1, _, by omega, by go_num, HN, rfl⟩
                  case measure => simp [intOf]; omega
                | false =>
                  have hno' := hub rfl
                  by_cases hx0 : v = 0
                  · have hv0 : (v != 0) = false := by simpa using hx0
                    have HN := HNX hbx (fun _ => hx0)
                    clear HNX HNO hub hut hbx hno' hx0
                    go_wp2_with (go_at_call 47; refine (HW.out _).mono ?_; rintro e w6 ⟨rfl, rfl⟩)
                    go_roundw
                    case rel => exact ⟨k + 1, _, by omega, by go_num, HN, rfl⟩
                    case measure => simp [intOf]; omega
                  · have hv0 : (v != 0) = true := by simpa using hx0
                    have HN := HNO (.inr ⟨hno', hx0⟩)
                    clear HNX HNO hub hut hbx hno' hx0
                    go_wp2_with (go_at_call 47; refine (HW.out _).mono ?_; rintro e w6 ⟨rfl, rfl⟩)
                    go_ret
                    exact ⟨below_drewN hl05 _, .inr ⟨HN.out, rfl⟩⟩
        · obtain rfl : k = m := by omega
          have HC : Hid (ColsP k l vs) := Lib.hid (fun j hj => HCT.out j hj)
          clear HCT
          go_wp2_with (fail)
          go_loopw [12, 13, 14] (fun t _ _ wr => ∃ a q : Nat, a ≤ i ∧ t = .int .i64 (a : Int) ∧ Hid (∀ a', a' < a → RowOk k (cst ls) l us vs a') ∧ wr = w5.drewN q) (fun t _ _ _ => i - (intOf t).toNat)
          case atStart => exact ⟨0, y, Nat.zero_le _, rfl, Lib.hid (fun a ha => by omega), rfl⟩
          case round =>
            obtain ⟨a, q, ha, rfl, HRT, rfl⟩ := hrel
            by_cases hla : a < i
            · have haI : (a : Int) < (i : Int) := by omega
              obtain ⟨gr, offr, Ai, ci, rfl, hgr, hci, hcell⟩ := HG.out.at_ HT.out hla
              obtain ⟨gc, offc, rfl, hgc, hcc⟩ := hcell (by omega)
              obtain ⟨g1, off1, u, rfl, hg1, hu, hcu⟩ := Ints.at_ H1.out (i := a) (by have := HL1.out; omega)
              have hgu : us.getD a 0 = u := by rw [List.getD_eq_getElem?_getD, hu]; rfl
              obtain ⟨g0, off0, x, rfl, hg0, hx, hcx⟩ := Ints.at_ H0.out (i := a) (by have := HL0.out; omega)
              have hgx : l.getD a 0 = x := by rw [List.getD_eq_getElem?_getD, hx]; rfl
              have r1 := HUS.out a hla
              rw [hgu] at r1
              have r4 := HI.out.pos a hla
              have r5 := HI.out.asg.ok a hla
              have hco : colOf l a = x.toNat := by unfold colOf; rw [hgx]
              rw [hgx] at r4
              rw [hco] at r5
              have hub := inB_t r1
              have R1 := Lib.hid r1
              have R5 := Lib.hid r5
              have HGU := Lib.hid hgu
              have HCO := Lib.hid hco
              have HCC := Lib.hid hcc
              clear hu hgu hx hgx r1 r5 hco hcc hcell
              go_wp2_with (fail)
              go_loopw [13, 14] (fun t _ wr => ∃ b q : Nat, b ≤ k ∧ t = .int .i64 (b : Int) ∧ Hid (∀ b', b' < b → (cst ls a b' ≠ -1 → u + vs.getD b' 0 ≤ cst ls a b') ∧ (x = (b' : Int) → u + vs.getD b' 0 = cst ls a b')) ∧ wr = w5.drewN q) (fun t _ _ => k - (intOf t).toNat)
              case atStart => exact ⟨0, q, Nat.zero_le _, rfl, Lib.hid (fun b hb => by omega), rfl⟩
              case round =>
                obtain ⟨b, q, hb, rfl, HIN, rfl⟩ := hrel
                by_cases hlb : b < k
                · have hbI : (b : Int) < (k : Int) := by omega
                  have hcb := HCC.out b hlb
                  obtain ⟨g2, off2, v, rfl, hg2, hv2, hcv⟩ := Ints.at_ H2.out (i := b) (by have := HL2.out; omega)
                  have hgv : vs.getD b 0 = v := by rw [List.getD_eq_getElem?_getD, hv2]; rfl
                  have hvb := (HC.out b hlb).1
                  rw [hgv] at hvb
                  have hvb := inB_t hvb
                  have hwr : IntKind.i64.wrap (u + v) = u + v := wrapI (by omega) (by omega)
                  have hrg := (HG.out.rng a b hla hlb).1
                  have p2 : x = (b : Int) → cst ls a b ≠ -1 := fun e => by
                    have := R5.out.2
                    rw [show x.toNat = b by omega] at this; exact this
                  have HNX : ((cst ls a b ≠ -1 → u + v ≤ cst ls a b) ∧ (x = (b : Int) → u + v = cst ls a b)) → Hid (∀ b', b' < b + 1 → (cst ls a b' ≠ -1 → u + vs.getD b' 0 ≤ cst ls a b') ∧ (x = (b' : Int) → u + vs.getD b' 0 = cst ls a b')) := fun h => Lib.hid (fun b' hb' => by
                    by_cases e : b' = b
                    · subst e; rw [hgv]; exact h
                    · exact HIN.out b' (by omega))
                  have HNO : ((cst ls a b ≠ -1 ∧ cst ls a b < u + v) ∨ (x = (b : Int) ∧ u + v ≠ cst ls a b)) → Hid (¬ PrvP i k (cst ls) l us vs cost) := fun h1 => Lib.hid (fun h => by
                    obtain ⟨_, q1, q2⟩ := (HPD.out.1 h).2.2 a hla
                    rw [HGU.out, HCO.out] at q2
                    rcases h1 with ⟨h1, h2⟩ | ⟨h1, h2⟩
                    · have := q1 b hlb h1
                      rw [HGU.out, hgv] at this; omega
                    · rw [show x.toNat = b by omega, hgv] at q2
                      exact h2 q2)
                  clear hv2 hgv
                  generalize cst ls a b = z at *
                  by_cases hz0 : 0 ≤ z
                  · have q1 : decide (z ≥ 0) = true := by simpa using hz0
                    have q1' : decide (0 ≤ z) = true := by simpa using hz0
                    by_cases hle : u + v ≤ z
                    · have q2 : decide (u + v > z) = false := by simp; omega
                      have q2' : decide (z < u + v) = false := by simp; omega
                      by_cases hxe : x = (b : Int)
                      · have q3 : (x == (b : Int)) = true := by simpa using hxe
                        by_cases heq : u + v = z
                        · have q4 : ((u + v) != z) = false := by simpa using heq
                          have HN := HNX ⟨fun _ => hle, fun _ => heq⟩
                          clear p2 hle hxe hz0 hub hvb HNX HNO hrg heq
                          go_wp2_with (fail)
                          go_quiet (fail)
                          go_wp2_with (fail)
                          go_roundw
                          case rel => exact ⟨b + 1, _, by omega, by go_num, HN, rfl⟩
                          case measure => simp [intOf]; omega
                        · have q4 : ((u + v) != z) = true := by simpa using heq
                          have HN := HNO (.inr ⟨hxe, heq⟩)
                          clear p2 hle hxe hz0 hub hvb HNX HNO hrg heq
                          go_wp2_with (fail)
                          go_quiet (fail)
                          go_wp2_with (fail)
                          go_ret
                          exact ⟨by first | exact below_drewN hl05 _ | exact below_drewN (below_drewN hl05 _) _, .inr ⟨HN.out, rfl⟩⟩
                      · have q3 : (x == (b : Int)) = false := by simpa using hxe
                        have HN := HNX ⟨fun _ => hle, fun h => absurd h hxe⟩
                        clear p2 hle hxe hz0 hub hvb HNX HNO hrg
                        go_wp2_with (fail)
                        go_quiet (fail)
                        go_wp2_with (fail)
                        go_roundw
                        case rel => exact ⟨b + 1, _, by omega, by go_num, HN, rfl⟩
                        case measure => simp [intOf]; omega
                    · have q2 : decide (u + v > z) = true := by simp; omega
                      have q2' : decide (z < u + v) = true := by simp; omega
                      have HN := HNO (.inl ⟨by omega, by omega⟩)
                      clear p2 hle hz0 hub hvb HNX HNO hrg
                      go_wp2_with (fail)
                      go_quiet (fail)
                      go_wp2_with (fail)
                      go_ret
                      exact ⟨by first | exact below_drewN hl05 _ | exact below_drewN (below_drewN hl05 _) _, .inr ⟨HN.out, rfl⟩⟩
                  · have q1 : decide (z ≥ 0) = false := by simpa using hz0
                    have q1' : decide (0 ≤ z) = false := by simpa using hz0
                    have hzm : z = -1 := by omega
                    have hxe : ¬ x = (b : Int) := fun e => p2 e hzm
                    have q3 : (x == (b : Int)) = false := by simpa using hxe
                    have HN := HNX ⟨fun h => absurd hzm h, fun h => absurd h hxe⟩
                    clear p2 hxe hz0 hub hvb HNX HNO hrg hzm
                    go_wp2_with (fail)
                    go_quiet (fail)
                    go_wp2_with (fail)
                    go_roundw
                    case rel => exact ⟨b + 1, _, by omega, by go_num, HN, rfl⟩
                    case measure => simp [intOf]; omega
                · obtain rfl : b = k := by omega
                  have HRT2 : Hid (∀ a', a' < a + 1 → RowOk b (cst ls) l us vs a') := Lib.hid (fun a' ha' => by
                    by_cases e : a' = a
                    · subst e
                      refine ⟨by rw [HGU.out]; exact R1.out, fun j hj hne => by rw [HGU.out]; exact (HIN.out j hj).1 hne, ?_⟩
                      rw [HGU.out, HCO.out]
                      exact (HIN.out x.toNat R5.out.1).2 (by omega)
                    · exact HRT.out a' (by omega))
                  go_wp2_with (fail)
                  go_roundw
                  case rel => exact ⟨a + 1, _, by omega, by go_num, HRT2, rfl⟩
                  case measure => simp [intOf]; omega
            · obtain rfl : a = i := by omega
              go_wp2_with (fail)
              go_ret
              exact ⟨below_drewN hl05 _, .inl ⟨HPD.out.2 ⟨HSC.out, HC.out, fun a' ha' => HRT.out a' ha'⟩, rfl⟩⟩

end Go.Proofs.Ytncmfjncdhhjoaa
