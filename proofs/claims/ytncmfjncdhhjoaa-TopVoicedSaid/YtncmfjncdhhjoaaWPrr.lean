/- rowsProve: the prices of the rows. -/
import Derived.Test.YtncmfjncdhhjoaaWPrc
namespace Go.Proofs.Ytncmfjncdhhjoaa
open Go.RowKit

/-- The prices of a row add up. -/
def RowOk (m : Nat) (c : Nat → Nat → Int) (l us vs : List Int) (i : Nat) : Prop :=
  inB (us.getD i 0) (-2000000000000000000) 2000000000000000000 = true ∧ (∀ k, k < m → c i k ≠ -1 → us.getD i 0 + vs.getD k 0 ≤ c i k) ∧ us.getD i 0 + vs.getD (colOf l i) 0 = c i (colOf l i)
def RowsP (n m : Nat) (c : Nat → Nat → Int) (l us vs : List Int) : Prop := ∀ i, i < n → RowOk m c l us vs i

set_option maxHeartbeats 4000000 in
set_option maxRecDepth 100000 in
theorem rows_any (B n m cA c0 c1 c2 : Nat) (A A0 A1 A2 : Option Addr) (ls : List (List Int)) (l us vs : List Int) (cost : Int) (w : World) (T : Tab B w A ls) (hB : B ≤ w.heap.size) (G : Good n m ls) (h0 : Ints w A0 l) (h1 : Ints w A1 us) (h2 : Ints w A2 vs) (hn : n = us.length) (hm : m = vs.length) (hl0 : n = l.length)
    (d1 : 1 ≤ n) (d2 : n ≤ m) (d3 : m ≤ 64) (hin : ∀ a, a < n → 0 ≤ l.getD a 0 ∧ l.getD a 0 < (m : Int)) (hv : ∀ k, k < m → -2000000000000000000 ≤ vs.getD k 0 ∧ vs.getD k 0 ≤ 0) :
    Calls Try.prog 58 #[.slice A n cA, .agg #[.slice A0 n c0, .slice A1 n c1, .slice A2 m c2, .int .i64 cost]] w fun e w' => Below w.heap.size w w' ∧ ((RowsP n m (cst ls) l us vs ∧ e = .returned (.bool true)) ∨ (¬ RowsP n m (cst ls) l us vs ∧ e = .returned (.bool false))) := by
  obtain ⟨O, hO⟩ : ∃ O, O = Obj.cells #[.slice A0 n c0, .slice A1 n c1, .slice A2 m c2, .int .i64 cost] 35 := ⟨_, rfl⟩
  have hbx : Blk 35 (w.alloc O) w.heap.size [.slice A0 n c0, .slice A1 n c1, .slice A2 m c2, .int .i64 cost] := by rw [hO]; exact Blk.new w 35 _
  have hlW := below_new w O
  have h0' := Vals.keep h0 hlW
  have h1' := Vals.keep h1 hlW
  have h2' := Vals.keep h2 hlW
  have T' := T.keep (hlW.mono hB)
  have hrow := fun (i : Nat) (hi : i < n) => G.at_ T' hi
  obtain ⟨g, off, _, _, rfl, _, _, _⟩ := hrow 0 (by omega)
  have HR := Lib.hid hrow
  have HG := Lib.hid (fun i k hi hk => G.rng i k hi hk)
  have H0 := Lib.hid h0'
  have H1 := Lib.hid h1'
  have H2 := Lib.hid h2'
  have HN := Lib.hid hn
  have HM := Lib.hid hm
  have HL0 := Lib.hid hl0
  have HIN := Lib.hid hin
  have HV := Lib.hid hv
  have HX := Lib.hid hbx
  have x0 := hbx.cell 0
  have x1 := hbx.cell 1
  have x2 := hbx.cell 2
  clear hbx h0 h1 h2 h0' h1' h2' T T' G hrow hn hm hl0 hin hv
  subst hO
  go_enter Try.func58, Try.ntmps58
  go_wp2_with (fail)
  generalize w.alloc (Obj.cells #[.slice A0 n c0, .slice A1 n c1, .slice A2 m c2, .int .i64 cost] 35) = W at *
  go_loopw [5, 6, 7, 8, 9, 13] (fun _ _ _ _ _ t wr => ∃ (i z : Nat), i ≤ n ∧ t = .int .i64 (i : Int) ∧ Hid (∀ a, a < i → RowOk m (cst ls) l us vs a) ∧ wr = W.drewN z) (fun _ _ _ _ _ t _ => n - (intOf t).toNat)
  case atStart => exact ⟨0, 0, Nat.zero_le _, rfl, Lib.hid (fun a ha => by omega), rfl⟩
  case round =>
    obtain ⟨i, z, hi, rfl, HS, rfl⟩ := hrel
    by_cases hlt : i < n
    · have hd : decide ((i : Int) < (n : Int)) = true := by simp; omega
      have hiI : (i : Int) < (n : Int) := by omega
      obtain ⟨gr, offr, Ai, ci, eA, hgr, hci, hcell⟩ := HR.out i hlt
      injection eA with eA
      injection eA with e1 e2
      subst e1 e2
      obtain ⟨gc, offc, rfl, hgc, hcc⟩ := hcell (by omega)
      obtain ⟨g1, off1, u, rfl, hg1, hu, hcu⟩ := Ints.at_ H1.out (i := i) (by have := HN.out; omega)
      have hgu : us.getD i 0 = u := by rw [List.getD_eq_getElem?_getD, hu]; rfl
      have hwi := fun W => within_any u (-2000000000000000000) 2000000000000000000 W
      have HW := Lib.hid hwi
      have HGU := Lib.hid hgu
      have HCC := Lib.hid hcc
      clear hu hgu hwi hcc hcell
      cases hbu : inB u (-2000000000000000000) 2000000000000000000 with
      | false =>
        rw [hbu] at HW
        have hno : ¬ RowsP n m (cst ls) l us vs := fun h => by
          have := (h i hlt).1
          rw [HGU.out, hbu] at this; cases this
        have HNO := Lib.hid hno
        clear hno hbu
        go_wp2_with (go_at_call 50; refine (HW.out _).mono ?_; rintro e w5 ⟨rfl, rfl⟩)
        go_ret
        exact ⟨below_drewN hlW _, .inr ⟨HNO.out, rfl⟩⟩
      | true =>
        rw [hbu] at HW
        have hub := inB_t hbu
        have HBU := Lib.hid hbu
        clear hbu
        go_wp2_with (go_at_call 50; refine (HW.out _).mono ?_; rintro e w5 ⟨rfl, rfl⟩)
        go_loopw [7, 8, 26] (fun _ _ t wr => ∃ (k y : Nat), k ≤ m ∧ t = .int .i64 (k : Int) ∧ Hid (∀ b, b < k → cst ls i b ≠ -1 → u + vs.getD b 0 ≤ cst ls i b) ∧ wr = W.drewN y) (fun _ _ t _ => m - (intOf t).toNat)
        case atStart => exact ⟨0, z, Nat.zero_le _, rfl, Lib.hid (fun b hb => by omega), rfl⟩
        case round =>
          obtain ⟨k, y, hk, rfl, HK, rfl⟩ := hrel
          by_cases hlk : k < m
          · have hdk : decide ((k : Int) < (m : Int)) = true := by simp; omega
            have hkI : (k : Int) < (m : Int) := by omega
            have hck := HCC.out k hlk
            obtain ⟨g2, off2, v, rfl, hg2, hv2, hcv⟩ := Ints.at_ H2.out (i := k) (by have := HM.out; omega)
            have hgv : vs.getD k 0 = v := by rw [List.getD_eq_getElem?_getD, hv2]; rfl
            have hvb := HV.out k hlk
            rw [hgv] at hvb
            have hwr : IntKind.i64.wrap (u + v) = u + v := wrapI (by omega) (by omega)
            have HKN : (cst ls i k ≠ -1 → u + v ≤ cst ls i k) → Hid (∀ b, b < k + 1 → cst ls i b ≠ -1 → u + vs.getD b 0 ≤ cst ls i b) := fun h => Lib.hid (fun b hb => by
              by_cases e : b = k
              · subst e; rw [hgv]; exact h
              · exact HK.out b (by omega))
            have HNO : (cst ls i k ≠ -1 ∧ cst ls i k < u + v) → Hid (¬ RowsP n m (cst ls) l us vs) := fun h => Lib.hid (fun h' => by
              have := (h' i hlt).2.1 k hlk h.1
              rw [HGU.out, hgv] at this; omega)
            clear hv2 hgv hvb
            generalize cst ls i k = x at *
            by_cases hx : x = -1
            · have hxb : (x != -1) = false := by simpa using hx
              have HK2 := HKN (fun h => absurd hx h)
              clear HKN HNO hx
              go_wp2_with (fail)
              go_roundw
              case rel => exact ⟨k + 1, _, by omega, by go_num, HK2, rfl⟩
              case measure => simp [intOf]; omega
            · have hxb : (x != -1) = true := by simpa using hx
              by_cases hle : u + v ≤ x
              · have hb1 : decide (u + v > x) = false := by simpa using hle
                have hb2 : decide (x < u + v) = false := by simpa using hle
                have HK2 := HKN (fun _ => hle)
                clear HKN HNO hx hle
                go_wp2_with (fail)
                go_roundw
                case rel => exact ⟨k + 1, _, by omega, by go_num, HK2, rfl⟩
                case measure => simp [intOf]; omega
              · have hb1 : decide (u + v > x) = true := by simp; omega
                have hb2 : decide (x < u + v) = true := by simp; omega
                have HN2 := HNO ⟨hx, by omega⟩
                clear HKN HNO hx hle
                go_wp2_with (fail)
                go_ret
                exact ⟨below_drewN hlW _, .inr ⟨HN2.out, rfl⟩⟩
          · obtain rfl : k = m := by omega
            have hdk : decide ((k : Int) < (k : Int)) = false := by simp
            obtain ⟨g0, off0, x, rfl, hg0, hx, hcx⟩ := Ints.at_ H0.out (i := i) (by have := HL0.out; omega)
            have hgx : l.getD i 0 = x := by rw [List.getD_eq_getElem?_getD, hx]; rfl
            have hrg := HIN.out i hlt
            rw [hgx] at hrg
            obtain ⟨j, rfl⟩ : ∃ j : Nat, x = (j : Int) := ⟨x.toNat, by omega⟩
            have hjm : j < k := by omega
            have hjI : (j : Int) < (k : Int) := by omega
            have hco : colOf l i = j := by unfold colOf; rw [hgx]; simp
            have hcj := HCC.out j hjm
            obtain ⟨g2, off2, v, rfl, hg2, hv2, hcv⟩ := Ints.at_ H2.out (i := j) (by have := HM.out; omega)
            have hgv : vs.getD j 0 = v := by rw [List.getD_eq_getElem?_getD, hv2]; rfl
            have hvb := HV.out j hjm
            rw [hgv] at hvb
            have hwr : IntKind.i64.wrap (u + v) = u + v := wrapI (by omega) (by omega)
            have HSN : u + v = cst ls i j → Hid (∀ a, a < i + 1 → RowOk k (cst ls) l us vs a) := fun h => Lib.hid (fun a ha => by
              by_cases e : a = i
              · subst e
                refine ⟨by rw [HGU.out]; exact HBU.out, fun b hb hne => by rw [HGU.out]; exact HK.out b hb hne, ?_⟩
                rw [HGU.out, hco, hgv]; exact h
              · exact HS.out a (by omega))
            have HNO : u + v ≠ cst ls i j → Hid (¬ RowsP n k (cst ls) l us vs) := fun h => Lib.hid (fun h' => by
              have := (h' i hlt).2.2
              rw [HGU.out, hco, hgv] at this
              exact h this)
            clear hx hgx hrg hco hv2 hgv hvb
            generalize cst ls i j = x at *
            by_cases he : u + v = x
            · have hb1 : ((u + v) != x) = false := by simpa using he
              have HS2 := HSN he
              clear HSN HNO he
              go_wp2_with (fail)
              go_quiet (fail)
              go_wp2_with (fail)
              go_roundw
              case rel => exact ⟨i + 1, _, by omega, by go_num, HS2, rfl⟩
              case measure => simp [intOf]; omega
            · have hb1 : ((u + v) != x) = true := by simpa using he
              have HN2 := HNO he
              clear HSN HNO he
              go_wp2_with (fail)
              go_quiet (fail)
              go_wp2_with (fail)
              go_ret
              exact ⟨by first | exact below_drewN hlW _ | exact below_drewN (below_drewN hlW _) _, .inr ⟨HN2.out, rfl⟩⟩
    · obtain rfl : i = n := by omega
      have hd : decide ((i : Int) < (i : Int)) = false := by simp
      have HALL : Hid (RowsP i m (cst ls) l us vs) := Lib.hid (fun a ha => HS.out a ha)
      go_wp2
      go_ret
      exact ⟨below_drewN hlW _, .inl ⟨HALL.out, rfl⟩⟩

end Go.Proofs.Ytncmfjncdhhjoaa
