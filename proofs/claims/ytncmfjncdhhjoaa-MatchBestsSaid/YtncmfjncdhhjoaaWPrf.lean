/- The reference's Proves, of a matching that is proved. -/
import Derived.Test.YtncmfjncdhhjoaaWPrm
namespace Go.Proofs.Ytncmfjncdhhjoaa
open Go.RowKit

set_option maxHeartbeats 8000000 in
set_option maxRecDepth 100000 in
theorem rproves_ok (B cA c0 c1 c2 n m : Nat) (A A0 A1 A2 : Option Addr) (ls : List (List Int)) (l us vs : List Int) (w : World) (T : Tab B w A ls) (hB : B ≤ w.heap.size) (h0 : Ints w A0 l) (h1 : Ints w A1 us) (h2 : Ints w A2 vs)
    (G : Good n m ls) (d1 : 1 ≤ n) (d2 : n ≤ m) (d3 : m ≤ 64) (hL1 : n = us.length) (hL2 : m = vs.length) (hI : IsAsg n m (cst ls) l) (hC : ColsP m l vs) (hR : RowsP n m (cst ls) l us vs) :
    Calls Try.prog 34 #[.slice A n cA, .agg #[.slice A0 n c0, .slice A1 n c1, .slice A2 m c2, .int .i64 (costN (cst ls) (colOf l) n)]] w fun e w' => Below w.heap.size w w' ∧ e = .returned (.bool true) := by
  obtain ⟨O, hO⟩ : ∃ O, O = Obj.cells #[.slice A0 n c0, .slice A1 n c1, .slice A2 m c2, .int .i64 (costN (cst ls) (colOf l) n)] 35 := ⟨_, rfl⟩
  have hbx : Blk 35 (w.alloc O) w.heap.size [.slice A0 n c0, .slice A1 n c1, .slice A2 m c2, .int .i64 (costN (cst ls) (colOf l) n)] := by rw [hO]; exact Blk.new w 35 _
  have hlW := below_new w O
  have T' := T.keep (hlW.mono hB)
  have hl0 : n = l.length := hI.len.symm
  have h0' := Vals.keep h0 hlW
  have h1' := Vals.keep h1 hlW
  have h2' := Vals.keep h2 hlW
  have hto := (refTotal_any B n m cA c0 n A A0 ls l (w.alloc O) T' G h0' hl0 d1 d2 d3 (by omega)).mono (fun e w' h => (⟨h.1, by
    rcases h.2 with ⟨_, h⟩ | ⟨h, _⟩
    · exact h
    · exact absurd hI h⟩ : Below (w.alloc O).heap.size (w.alloc O) w' ∧ e = .returned (.tuple #[.int .i64 (costN (cst ls) (colOf l) n), .bool true])))
  generalize costN (cst ls) (colOf l) n = cost at *
  have hkb : ∀ W, Below (w.alloc O).heap.size (w.alloc O) W → Blk 35 W w.heap.size [.slice A0 n c0, .slice A1 n c1, .slice A2 m c2, .int .i64 cost] ∧ Tab B W A ls ∧ Ints W A0 l ∧ Ints W A1 us ∧ Ints W A2 vs := fun W h =>
    ⟨hbx.keep h, T'.keep (h.mono (Nat.le_trans hB hlW.size)), Vals.keep h0' h, Vals.keep h1' h, Vals.keep h2' h⟩
  have HTO := Lib.hid hto
  have HKB := Lib.hid hkb
  have HG := Lib.hid G
  have HL0 := Lib.hid hl0
  have HL1 := Lib.hid hL1
  have HL2 := Lib.hid hL2
  have HI := Lib.hid hI
  have HC := Lib.hid hC
  have HR := Lib.hid hR
  have x0 := hbx.cell 0
  clear hbx h0 h1 h2 T T' hL1 hL2 hto G h0' h1' h2' hl0 hI hC hR hkb
  subst hO
  go_enter Try.func34, Try.ntmps34
  go_wp2_with (go_at_call 27; refine (HTO.out).mono ?_; rintro e w5 ⟨hl5, rfl⟩
               have hl05 := hlW.trans (hl5.mono hlW.size)
               obtain ⟨hbx, hT, h0, h1, h2⟩ := HKB.out w5 hl5
               have x1 : w5.cell? ⟨w.heap.size, 1, none⟩ = some (.slice A1 n c1) := hbx.cell 1
               have x2 : w5.cell? ⟨w.heap.size, 2, none⟩ = some (.slice A2 m c2) := hbx.cell 2
               have x3 : w5.cell? ⟨w.heap.size, 3, none⟩ = some (.int .i64 cost) := hbx.cell 3
               have y0 : w5.cell? ⟨w.heap.size, 0, none⟩ = some (.slice A0 n c0) := hbx.cell 0
               have H0 := Lib.hid h0
               have H1 := Lib.hid h1
               have H2 := Lib.hid h2
               have HT := Lib.hid hT
               clear hbx hT h0 h1 h2 x0 HTO)
  go_loopw [8] (fun t wr => ∃ i z : Nat, i ≤ n ∧ t = .int .i64 (i : Int) ∧ wr = w5.drewN z) (fun t _ => n - (intOf t).toNat)
  case atStart => exact ⟨0, 0, Nat.zero_le _, rfl, rfl⟩
  case round =>
    obtain ⟨i, z, hi, rfl, rfl⟩ := hrel
    by_cases hlt : i < n
    · have hiI : (i : Int) < (n : Int) := by omega
      obtain ⟨g1, off1, u, rfl, hg1, hu, hcu⟩ := Ints.at_ H1.out (i := i) (by have := HL1.out; omega)
      have hgu : us.getD i 0 = u := by rw [List.getD_eq_getElem?_getD, hu]; rfl
      have hbu := (HR.out i hlt).1
      rw [hgu] at hbu
      have hwi := fun W => in_any u (-2000000000000000000) 2000000000000000000 W
      rw [hbu] at hwi
      have HW := Lib.hid hwi
      clear hu hgu hbu hwi
      go_wp2_with (go_at_call 47; refine (HW.out _).mono ?_; rintro e w6 ⟨rfl, rfl⟩)
      go_roundw
      case rel => exact ⟨i + 1, _, by omega, by go_num, rfl⟩
      case measure => simp [intOf]; omega
    · obtain rfl : i = n := by omega
      go_wp2_with (fail)
      go_loopw [9, 10, 11] (fun t _ _ wr => ∃ k y : Nat, k ≤ m ∧ t = .int .i64 (k : Int) ∧ wr = w5.drewN y) (fun t _ _ _ => m - (intOf t).toNat)
      case atStart => exact ⟨0, z, Nat.zero_le _, rfl, rfl⟩
      case round =>
        obtain ⟨k, y, hk, rfl, rfl⟩ := hrel
        by_cases hlk : k < m
        · have hkI : (k : Int) < (m : Int) := by omega
          obtain ⟨g2, off2, v, rfl, hg2, hv2, hcv⟩ := Ints.at_ H2.out (i := k) (by have := HL2.out; omega)
          have hgv : vs.getD k 0 = v := by rw [List.getD_eq_getElem?_getD, hv2]; rfl
          obtain ⟨hbv, hfr⟩ := HC.out k hlk
          rw [hgv] at hbv hfr
          have hwi := fun W => in_any v (-2000000000000000000) 0 W
          rw [hbv] at hwi
          have HW := Lib.hid hwi
          have HFR := Lib.hid hfr
          clear hv2 hgv hbv hfr hwi
          go_wp2_with (fail)
          go_loopw [10, 11] (fun s t wr => ∃ (a q : Nat) (b : Bool), a ≤ i ∧ t = .int .i64 (a : Int) ∧ s = .bool b ∧ Hid (b = true ↔ ∃ j, j < a ∧ l.getD j 0 = (k : Int)) ∧ wr = w5.drewN q) (fun _ t _ => i - (intOf t).toNat)
          case atStart => exact ⟨0, y, false, Nat.zero_le _, rfl, rfl, Lib.hid (by simp), rfl⟩
          case round =>
            obtain ⟨a, q, b, ha, rfl, rfl, HU, rfl⟩ := hrel
            by_cases hla : a < i
            · have haI : (a : Int) < (i : Int) := by omega
              obtain ⟨g0, off0, x, rfl, hg0, hx, hcx⟩ := Ints.at_ H0.out (i := a) (by have := HL0.out; omega)
              have hgx : l.getD a 0 = x := by rw [List.getD_eq_getElem?_getD, hx]; rfl
              have HN : Hid ((b || (x == (k : Int))) = true ↔ ∃ j, j < a + 1 ∧ l.getD j 0 = (k : Int)) := Lib.hid (by
                rw [Bool.or_eq_true, HU.out]
                constructor
                · rintro (⟨j, hj, e⟩ | e)
                  · exact ⟨j, by omega, e⟩
                  · exact ⟨a, by omega, by rw [hgx]; simpa using e⟩
                · rintro ⟨j, hj, e⟩
                  by_cases e2 : j = a
                  · subst e2; rw [hgx] at e; exact .inr (by simpa using e)
                  · exact .inl ⟨j, by omega, e⟩)
              clear hx hgx
              generalize hxk : (x == (k : Int)) = e at *
              have HXK := Lib.hid hxk
              cases b <;>
                · go_wp2_with (fail)
                  go_roundw
                  case rel => exact ⟨a + 1, _, _, by omega, by go_num, rfl, by simpa using HN, rfl⟩
                  case measure => simp [intOf]; omega
            · obtain rfl : a = i := by omega
              have hu0 : b = false → v = 0 := fun hb => HFR.out fun j hj e => by
                have := HU.out.2 ⟨j, by rw [HL0.out]; exact hj, e⟩
                rw [hb] at this; cases this
              clear HFR HU
              cases b with
              | true =>
                clear hu0
                go_wp2_with (go_at_call 47; refine (HW.out _).mono ?_; rintro e w6 ⟨rfl, rfl⟩)
                go_roundw
                case rel => exact ⟨k + 1, _, by omega, by go_num, rfl⟩
                case measure => simp [intOf]; omega
              | false =>
                have hv0 : (v != 0) = false := by simpa using hu0 rfl
                clear hu0
                go_wp2_with (go_at_call 47; refine (HW.out _).mono ?_; rintro e w6 ⟨rfl, rfl⟩)
                go_roundw
                case rel => exact ⟨k + 1, _, by omega, by go_num, rfl⟩
                case measure => simp [intOf]; omega
        · obtain rfl : k = m := by omega
          go_wp2_with (fail)
          go_loopw [12, 13, 14] (fun t _ _ wr => ∃ a q : Nat, a ≤ i ∧ t = .int .i64 (a : Int) ∧ wr = w5.drewN q) (fun t _ _ _ => i - (intOf t).toNat)
          case atStart => exact ⟨0, y, Nat.zero_le _, rfl, rfl⟩
          case round =>
            obtain ⟨a, q, ha, rfl, rfl⟩ := hrel
            by_cases hla : a < i
            · have haI : (a : Int) < (i : Int) := by omega
              obtain ⟨gr, offr, Ai, ci, rfl, hgr, hci, hcell⟩ := HG.out.at_ HT.out hla
              obtain ⟨gc, offc, rfl, hgc, hcc⟩ := hcell (by omega)
              obtain ⟨g1, off1, u, rfl, hg1, hu, hcu⟩ := Ints.at_ H1.out (i := a) (by have := HL1.out; omega)
              have hgu : us.getD a 0 = u := by rw [List.getD_eq_getElem?_getD, hu]; rfl
              obtain ⟨g0, off0, x, rfl, hg0, hx, hcx⟩ := Ints.at_ H0.out (i := a) (by have := HL0.out; omega)
              have hgx : l.getD a 0 = x := by rw [List.getD_eq_getElem?_getD, hx]; rfl
              obtain ⟨r1, r2, r3⟩ := HR.out a hla
              rw [hgu] at r1 r2 r3
              have r4 := HI.out.pos a hla
              have hco : colOf l a = x.toNat := by unfold colOf; rw [hgx]
              rw [hgx] at r4
              rw [hco] at r3
              have hub := inB_t r1
              have HR2 := Lib.hid r2
              have HR3 := Lib.hid r3
              have HCC := Lib.hid hcc
              clear hu hgu hx hgx r1 r2 r3 hco hcc hcell
              go_wp2_with (fail)
              go_loopw [13, 14] (fun t _ wr => ∃ b q : Nat, b ≤ k ∧ t = .int .i64 (b : Int) ∧ wr = w5.drewN q) (fun t _ _ => k - (intOf t).toNat)
              case atStart => exact ⟨0, q, Nat.zero_le _, rfl, rfl⟩
              case round =>
                obtain ⟨b, q, hb, rfl, rfl⟩ := hrel
                by_cases hlb : b < k
                · have hbI : (b : Int) < (k : Int) := by omega
                  have hcb := HCC.out b hlb
                  obtain ⟨g2, off2, v, rfl, hg2, hv2, hcv⟩ := Ints.at_ H2.out (i := b) (by have := HL2.out; omega)
                  have hgv : vs.getD b 0 = v := by rw [List.getD_eq_getElem?_getD, hv2]; rfl
                  have hvb := (HC.out b hlb).1
                  rw [hgv] at hvb
                  have hvb := inB_t hvb
                  have hwr : IntKind.i64.wrap (u + v) = u + v := wrapI (by omega) (by omega)
                  have p1 := HR2.out b hlb
                  rw [hgv] at p1
                  have p2 : x = (b : Int) → u + v = cst ls a b := fun e => by
                    have := HR3.out
                    rw [show x.toNat = b by omega, hgv] at this; exact this
                  clear hv2 hgv
                  generalize cst ls a b = z at *
                  by_cases hz0 : 0 ≤ z
                  · have q1 : decide (z ≥ 0) = true := by simpa using hz0
                    have q1' : decide (0 ≤ z) = true := by simpa using hz0
                    have hle := p1 (by omega)
                    have q2 : decide (u + v > z) = false := by simp; omega
                    have q2' : decide (z < u + v) = false := by simp; omega
                    by_cases hxe : x = (b : Int)
                    · have q3 : (x == (b : Int)) = true := by simpa using hxe
                      have q4 : ((u + v) != z) = false := by simpa using p2 hxe
                      clear p1 p2 hle hxe hz0 hub hvb
                      go_wp2_with (fail)
                      go_quiet (fail)
                      go_wp2_with (fail)
                      go_roundw
                      case rel => exact ⟨b + 1, _, by omega, by go_num, rfl⟩
                      case measure => simp [intOf]; omega
                    · have q3 : (x == (b : Int)) = false := by simpa using hxe
                      clear p1 p2 hle hxe hz0 hub hvb
                      go_wp2_with (fail)
                      go_quiet (fail)
                      go_wp2_with (fail)
                      go_roundw
                      case rel => exact ⟨b + 1, _, by omega, by go_num, rfl⟩
                      case measure => simp [intOf]; omega
                  · have q1 : decide (z ≥ 0) = false := by simpa using hz0
                    have q1' : decide (0 ≤ z) = false := by simpa using hz0
                    by_cases hxe : x = (b : Int)
                    · have q3 : (x == (b : Int)) = true := by simpa using hxe
                      have q4 : ((u + v) != z) = false := by simpa using p2 hxe
                      clear p1 p2 hxe hz0 hub hvb
                      go_wp2_with (fail)
                      go_quiet (fail)
                      go_wp2_with (fail)
                      go_roundw
                      case rel => exact ⟨b + 1, _, by omega, by go_num, rfl⟩
                      case measure => simp [intOf]; omega
                    · have q3 : (x == (b : Int)) = false := by simpa using hxe
                      clear p1 p2 hxe hz0 hub hvb
                      go_wp2_with (fail)
                      go_quiet (fail)
                      go_wp2_with (fail)
                      go_roundw
                      case rel => exact ⟨b + 1, _, by omega, by go_num, rfl⟩
                      case measure => simp [intOf]; omega
                · obtain rfl : b = k := by omega
                  go_wp2_with (fail)
                  go_roundw
                  case rel => exact ⟨a + 1, _, by omega, by go_num, rfl⟩
                  case measure => simp [intOf]; omega
            · obtain rfl : a = i := by omega
              go_wp2_with (fail)
              go_ret
              exact ⟨below_drewN hl05 _, rfl⟩

end Go.Proofs.Ytncmfjncdhhjoaa
