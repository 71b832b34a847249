/- columnsProve: the prices of the columns. -/
import Derived.Test.YtncmfjncdhhjoaaWTot
namespace Go.Proofs.Ytncmfjncdhhjoaa
open Go.RowKit

/-- Prices of columns that may prove an assignment. -/
def ColsP (m : Nat) (l vs : List Int) : Prop := ∀ k, k < m → inB (vs.getD k 0) (-2000000000000000000) 0 = true ∧ ((∀ a, a < l.length → l.getD a 0 ≠ (k : Int)) → vs.getD k 0 = 0)
def ColsTo (m : Nat) (l vs : List Int) (j : Nat) : Prop := ∀ k, k < j → inB (vs.getD k 0) (-2000000000000000000) 0 = true ∧ ((∀ a, a < l.length → l.getD a 0 ≠ (k : Int)) → vs.getD k 0 = 0)

set_option maxHeartbeats 4000000 in
set_option maxRecDepth 100000 in
theorem cols_any (m c0 c1 c2 L L1 : Nat) (A0 A1 A2 : Option Addr) (l vs : List Int) (cost : Int) (w : World) (h0 : Ints w A0 l) (h2 : Ints w A2 vs) (hL : L = l.length) (hm : m = vs.length) (h3 : m ≤ 64) (hL3 : L ≤ 1000)
    (hin : ∀ a, a < L → 0 ≤ l.getD a 0 ∧ l.getD a 0 < (m : Int)) :
    Calls Try.prog 57 #[.agg #[.slice A0 L c0, .slice A1 L1 c1, .slice A2 m c2, .int .i64 cost]] w fun e w' => Below w.heap.size w w' ∧ ((ColsP m l vs ∧ e = .returned (.bool true)) ∨ (¬ ColsP m l vs ∧ e = .returned (.bool false))) := by
  obtain ⟨O, hO⟩ : ∃ O, O = Obj.cells #[.slice A0 L c0, .slice A1 L1 c1, .slice A2 m c2, .int .i64 cost] 35 := ⟨_, rfl⟩
  have hbx : Blk 35 (w.alloc O) w.heap.size [.slice A0 L c0, .slice A1 L1 c1, .slice A2 m c2, .int .i64 cost] := by rw [hO]; exact Blk.new w 35 _
  have hmk := fun W => makeB m h3 W
  have hB0 := blk_madeB m (w.alloc O)
  have hl0 := (below_new w O).trans ((below_new (w.alloc O) (.cells (Array.replicate m (.bool false)) 4)).mono (below_new w O).size)
  have hbx2 := hbx.keep (below_new (w.alloc O) (.cells (Array.replicate m (.bool false)) 4))
  have hsz : (w.alloc O).heap.size = w.heap.size + 1 := by simp
  rw [hsz] at hB0
  have HB0 := Lib.hid hB0
  have HX0 := Lib.hid hbx2
  have HA := Lib.hid h0
  have HV := Lib.hid h2
  have HL := Lib.hid hL
  have HM := Lib.hid hm
  have HIN := Lib.hid hin
  have x0 := hbx.cell 0
  have x2 := hbx.cell 2
  clear hbx hB0 hbx2 h0 h2 hL hm hin
  subst hO
  go_enter Try.func57, Try.ntmps57
  go_wp2_with (fail)
  clear x0 x2 hsz hmk
  have hr0 : Blk 35 _ _ _ := HX0.out
  go_loopw [5, 15] (fun _ t wr => ∃ (i : Nat) (tk : Nat → Bool), i ≤ L ∧ t = .int .i64 (i : Int) ∧ Hid (∀ k, k < m → (tk k = true ↔ ∃ a, a < i ∧ l.getD a 0 = (k : Int))) ∧ Hid (Blk 35 wr w.heap.size [.slice A0 L c0, .slice A1 L1 c1, .slice A2 m c2, .int .i64 cost]) ∧ Blk 4 wr (w.heap.size + 1) (flB tk m) ∧ Below w.heap.size w wr) (fun _ t _ => L - (intOf t).toNat)
  case atStart => exact ⟨0, _, Nat.zero_le _, rfl, Lib.hid (fun k hk => by simp), HX0, HB0.out, hl0⟩
  case round =>
    clear HB0 HX0 hl0 hr0
    obtain ⟨i, tk, hi, rfl, HTK, HX, hb, hl⟩ := hrel
    by_cases hlt : i < L
    · have hd : decide ((i : Int) < (L : Int)) = true := by simp; omega
      obtain ⟨g3, off3, x, rfl, hg3, hx, hcx⟩ := Ints.at_ (Vals.keep HA.out hl) (i := i) (by have := HL.out; omega)
      have hgx : l.getD i 0 = x := by rw [List.getD_eq_getElem?_getD, hx]; rfl
      have hrg := HIN.out i hlt
      rw [hgx] at hrg
      obtain ⟨k, rfl⟩ : ∃ k : Nat, x = (k : Int) := ⟨x.toNat, by omega⟩
      have hkm : k < m := by omega
      have hkI : (k : Int) < (m : Int) := by omega
      have ctk := hb.bool hkm
      have ftk := hb.frozen k
      have htk2 : ∀ j, j < m → (upd tk k true j = true ↔ ∃ a, a < i + 1 ∧ l.getD a 0 = (j : Int)) := fun j hj => by
        by_cases e : j = k
        · subst e
          rw [upd_at]
          exact ⟨fun _ => ⟨i, by omega, hgx⟩, fun _ => rfl⟩
        · rw [upd_ne e, HTK.out j hj]
          constructor
          · rintro ⟨a, ha, ea⟩; exact ⟨a, by omega, ea⟩
          · rintro ⟨a, ha, ea⟩
            by_cases e2 : a = i
            · subst e2; rw [hgx] at ea; omega
            · exact ⟨a, by omega, ea⟩
      have HB2 := Lib.hid (hb.setB k true)
      have HTK2 := Lib.hid htk2
      have HX2 := Lib.hid (HX.out.setOther (a := ⟨w.heap.size + 1, k, none⟩) (by show w.heap.size ≠ w.heap.size + 1; omega) (.bool true))
      have hl2 : Below w.heap.size w (wr.setCell ⟨w.heap.size + 1, k, none⟩ (.bool true)) := below_set hl (by omega) _
      clear htk2 hgx hx hrg hb
      generalize tk k = b at *
      go_wp2_with (fail)
      go_roundw
      case rel => exact ⟨i + 1, _, by omega, by go_num, HTK2, HX2, HB2.out, hl2⟩
      case measure => simp [intOf]; omega
    · obtain rfl : i = L := by omega
      have hd : decide ((i : Int) < (i : Int)) = false := by simp
      have x2 := HX.out.cell 2
      go_wp2_with (fail)
      clear x2
      go_loopw [6, 7, 26] (fun _ _ t wr2 => ∃ (j z : Nat), j ≤ m ∧ t = .int .i64 (j : Int) ∧ Hid (ColsTo m l vs j) ∧ wr2 = wr.drewN z) (fun _ _ t _ => m - (intOf t).toNat)
      case atStart => exact ⟨0, 0, Nat.zero_le _, rfl, Lib.hid (fun k hk => by omega), rfl⟩
      case round =>
        obtain ⟨j, z, hj, rfl, HS, rfl⟩ := hrel
        by_cases hlj : j < m
        · have hdj : decide ((j : Int) < (m : Int)) = true := by simp; omega
          obtain ⟨g4, off4, x, rfl, hg4, hx, hcx⟩ := Ints.at_ (Vals.keep HV.out hl) (i := j) (by have := HM.out; omega)
          have hgx : vs.getD j 0 = x := by rw [List.getD_eq_getElem?_getD, hx]; rfl
          have hjI : (j : Int) < (m : Int) := by omega
          have ctk := hb.bool hlj
          have htk := HTK.out j hlj
          have HNX : inB x (-2000000000000000000) 0 = true → ((∀ a, a < l.length → l.getD a 0 ≠ (j : Int)) → x = 0) → Hid (ColsTo m l vs (j + 1)) := fun h1 h2 => Lib.hid (fun k hk => by
            by_cases e : k = j
            · subst e; rw [hgx]; exact ⟨h1, h2⟩
            · exact HS.out k (by omega))
          have HNO : (inB x (-2000000000000000000) 0 = false ∨ ((∀ a, a < l.length → l.getD a 0 ≠ (j : Int)) ∧ x ≠ 0)) → Hid (¬ ColsP m l vs) := fun h1 => Lib.hid (fun h => by
            obtain ⟨q1, q2⟩ := h j hlj
            rw [hgx] at q1 q2
            rcases h1 with h1 | ⟨h1, h2⟩
            · rw [h1] at q1; cases q1
            · exact h2 (q2 h1))
          have hw := fun W => within_any x (-2000000000000000000) 0 W
          have HW := Lib.hid hw
          have hno : tk j = false → ∀ a, a < l.length → l.getD a 0 ≠ (j : Int) := fun h a ha e => by
            have := htk.2 ⟨a, by rw [HL.out]; exact ha, e⟩
            rw [h] at this; cases this
          have hyes : tk j = true → ¬ ∀ a, a < l.length → l.getD a 0 ≠ (j : Int) := fun h h' => by
            obtain ⟨a, ha, e⟩ := htk.1 h
            exact h' a (by rw [← HL.out]; exact ha) e
          clear hx hgx htk hw
          generalize tk j = b at *
          cases hbx : inB x (-2000000000000000000) 0 with
          | false =>
            rw [hbx] at HW
            have HN := HNO (.inl hbx)
            clear HNX HNO hno hyes hbx
            go_wp2_with (go_at_call 50; refine (HW.out _).mono ?_; rintro e w5 ⟨rfl, rfl⟩)
            go_ret
            exact ⟨below_drewN hl _, .inr ⟨HN.out, rfl⟩⟩
          | true =>
            rw [hbx] at HW
            cases b with
            | true =>
              have HN := HNX hbx (fun h => absurd h (hyes rfl))
              clear HNX HNO hno hyes hbx
              go_wp2_with (go_at_call 50; refine (HW.out _).mono ?_; rintro e w5 ⟨rfl, rfl⟩)
              go_roundw
              case rel => exact ⟨j + 1, _, by omega, by go_num, HN, rfl⟩
              case measure => simp [intOf]; omega
            | false =>
              have hno' := hno rfl
              by_cases hx0 : x = 0
              · have hxb : (x != 0) = false := by simpa using hx0
                have HN := HNX hbx (fun _ => hx0)
                clear HNX HNO hno hyes hbx hno' hx0
                go_wp2_with (go_at_call 50; refine (HW.out _).mono ?_; rintro e w5 ⟨rfl, rfl⟩)
                go_roundw
                case rel => exact ⟨j + 1, _, by omega, by go_num, HN, rfl⟩
                case measure => simp [intOf]; omega
              · have hxb : (x != 0) = true := by simpa using hx0
                have HN := HNO (.inr ⟨hno', hx0⟩)
                clear HNX HNO hno hyes hbx hno' hx0
                go_wp2_with (go_at_call 50; refine (HW.out _).mono ?_; rintro e w5 ⟨rfl, rfl⟩)
                go_ret
                exact ⟨below_drewN hl _, .inr ⟨HN.out, rfl⟩⟩
        · obtain rfl : j = m := by omega
          have hdj : decide ((j : Int) < (j : Int)) = false := by simp
          have HALL : Hid (ColsP j l vs) := Lib.hid (fun k hk => HS.out k hk)
          go_wp2
          go_ret
          exact ⟨below_drewN hl _, .inl ⟨HALL.out, rfl⟩⟩

end Go.Proofs.Ytncmfjncdhhjoaa
