/- The program's Total. -/
import Derived.Test.YtncmfjncdhhjoaaWRTot
import Derived.Test.YtncmfjncdhhjoaaWNew
namespace Go.Proofs.Ytncmfjncdhhjoaa
open Go.RowKit

def AsgPost (w : World) (n m : Nat) (c : Nat → Nat → Int) (l : List Int) (e : Ending) (w' : World) : Prop :=
  Below w.heap.size w w' ∧ ((IsAsg n m c l ∧ e = .returned (.bool true)) ∨ (¬ IsAsg n m c l ∧ e = .returned (.bool false)))

set_option maxHeartbeats 4000000 in
set_option maxRecDepth 100000 in
theorem isAsg_any (B n m cA cL L : Nat) (A A' : Option Addr) (ls : List (List Int)) (l : List Int) (w : World) (T : Tab B w A ls) (hB : B ≤ w.heap.size) (G : Good n m ls) (hA' : Ints w A' l) (hL : L = l.length) (h1 : 1 ≤ n) (h2 : n ≤ m) (h3 : m ≤ 64) :
    Calls Try.prog 48 #[.slice A n cA, .slice A' L cL] w (AsgPost w n m (cst ls) l) := by
  by_cases hLn : L = n
  · subst hLn
    obtain ⟨g, off, A0, c0, rfl, hg, hr0, _⟩ := G.at_ T (i := 0) (by omega)
    have hr0' : w.cell? ⟨g, off, none⟩ = some (.slice A0 m c0) := hr0
    have hrow := fun (W : World) (hW : Below B w W) (i : Nat) (hi : i < L) => G.at_ (T.keep hW) hi
    have hrng := fun i k hi hk => G.rng i k hi hk
    have HR := Lib.hid hrow
    have HA := Lib.hid hA'
    have HL := Lib.hid hL
    have hne : ((L : Int) != (L : Int)) = false := by simp
    have hm1 : IntKind.i64.wrap ((m : Int) - 1) = (m : Int) - 1 := wrapI (by omega) (by omega)
    have hmk := fun W => makeB m h3 W
    have HB0 := Lib.hid (blk_madeB m w)
    have hl0 := below_new w (.cells (Array.replicate m (.bool false)) 4)
    clear hrow hA' hL T G
    go_enter Try.func48, Try.ntmps48
    go_wp2_with (fail)
    go_loopw [6, 7, 20] (fun _ _ t wr => ∃ (i : Nat) (tk : Nat → Bool), i ≤ L ∧ t = .int .i64 (i : Int) ∧ Hid (AsgTo m (cst ls) l i) ∧ Hid (∀ k, k < m → (tk k = true ↔ ∃ a, a < i ∧ l.getD a 0 = (k : Int))) ∧ Blk 4 wr w.heap.size (flB tk m) ∧ Below w.heap.size w wr) (fun _ _ t _ => L - (intOf t).toNat)
    case atStart => exact ⟨0, _, Nat.zero_le _, rfl, Lib.hid (asgTo_zero _ _ _), Lib.hid (fun k hk => by simp), HB0.out, hl0⟩
    case round =>
      clear HB0 hl0
      obtain ⟨i, tk, hi, rfl, HS, HTK, hb, hl⟩ := hrel
      by_cases hlt : i < L
      · obtain ⟨g1, off1, Ai, ci, eA, hg1, hci, hcell⟩ := HR.out wr (hl.mono hB) i hlt
        injection eA with eA
        injection eA with e1 e2
        subst e1 e2
        obtain ⟨g2, off2, rfl, hg2, hcc⟩ := hcell (by omega)
        obtain ⟨g3, off3, x, rfl, hg3, hx, hcx⟩ := Ints.at_ (Vals.keep HA.out hl) (i := i) (by have := HL.out; omega)
        have hgx : l.getD i 0 = x := by rw [List.getD_eq_getElem?_getD, hx]; rfl
        have HGX := Lib.hid hgx
        clear hx hgx hcell
        cases hbx : inB x 0 ((m : Int) - 1) with
        | false =>
          have hno : ¬ IsAsg L m (cst ls) l := fun h => by
            have h1 := h.pos i hlt
            have h2 := (h.asg.ok i hlt).1
            unfold colOf at h2
            rw [HGX.out] at h1 h2
            exact inB_f hbx ⟨h1, by omega⟩
          have HNO := Lib.hid hno
          clear hno hcc
          go_wp2_with (go_at_call 50; refine (within_any _ _ _ _).mono ?_; rintro e w5 ⟨rfl, rfl⟩)
          go_ret
          exact ⟨hl, .inr ⟨HNO.out, rfl⟩⟩
        | true =>
          have hxx := inB_t hbx
          obtain ⟨k, rfl⟩ : ∃ k : Nat, x = (k : Int) := ⟨x.toNat, by omega⟩
          have hkm : k < m := by omega
          have hck := hcc k hkm
          have hco : colOf l i = k := by unfold colOf; rw [HGX.out]; simp
          have ctk := hb.bool hkm
          have ftk := hb.frozen k
          have hkI : (k : Int) < (m : Int) := by omega
          have HCO := Lib.hid hco
          cases htk : tk k with
          | true =>
            rw [htk] at ctk
            obtain ⟨a, ha, ea⟩ := (HTK.out k hkm).1 htk
            have hno : ¬ IsAsg L m (cst ls) l := fun h => by
              have h9 := h.asg.inj a i (by omega) hlt (by unfold colOf; rw [ea, HGX.out])
              omega
            have HNO := Lib.hid hno
            clear hno hcc hco htk
            go_wp2_with (go_at_call 50; refine (within_any _ _ _ _).mono ?_; rintro e w5 ⟨rfl, rfl⟩)
            go_ret
            exact ⟨hl, .inr ⟨HNO.out, rfl⟩⟩
          | false =>
            rw [htk] at ctk
            have hnx : cst ls i k ≠ -1 → AsgTo m (cst ls) l (i + 1) := fun hc =>
              HS.out.next (by rw [HGX.out]; omega) (by rw [HCO.out]; exact hkm) (by rw [HCO.out]; exact hc) (fun a ha e => by
                have := (HTK.out k hkm).2 ⟨a, ha, by rw [e, HGX.out]⟩
                rw [htk] at this; cases this)
            have hno : cst ls i k = -1 → ¬ IsAsg L m (cst ls) l := fun hc h => by
              have h2 := (h.asg.ok i hlt).2
              rw [HCO.out] at h2
              exact h2 hc
            have htk2 : ∀ j, j < m → (upd tk k true j = true ↔ ∃ a, a < i + 1 ∧ l.getD a 0 = (j : Int)) := fun j hj => by
              by_cases e : j = k
              · subst e
                rw [upd_at]
                exact ⟨fun _ => ⟨i, by omega, HGX.out⟩, fun _ => rfl⟩
              · rw [upd_ne e, HTK.out j hj]
                constructor
                · rintro ⟨a, ha, ea⟩; exact ⟨a, by omega, ea⟩
                · rintro ⟨a, ha, ea⟩
                  by_cases e2 : a = i
                  · subst e2; rw [HGX.out] at ea; omega
                  · exact ⟨a, by omega, ea⟩
            have hb2 := hb.setB k true
            have hl2 := below_set hl (Nat.le_refl _) (i := k) (.bool true)
            have HTK2 := Lib.hid htk2
            have HB2 := Lib.hid hb2
            clear hcc hco htk htk2 hb2
            generalize cst ls i k = v at *
            by_cases hv : v = -1
            · subst hv
              have HNO := Lib.hid (hno rfl)
              clear hno hnx
              go_wp2_with (go_at_call 50; refine (within_any _ _ _ _).mono ?_; rintro e w5 ⟨rfl, rfl⟩)
              go_ret
              exact ⟨hl, .inr ⟨HNO.out, rfl⟩⟩
            · have hvb : (v == -1) = false := by simpa using hv
              have HNX := Lib.hid (hnx hv)
              clear hno hnx hv
              go_wp2_with (go_at_call 50; refine (within_any _ _ _ _).mono ?_; rintro e w5 ⟨rfl, rfl⟩)
              go_roundw
              case rel => exact ⟨i + 1, _, by omega, by go_num, HNX, HTK2, HB2.out, hl2⟩
              case measure => simp [intOf]; omega
      · have hiL : i = L := by omega
        have hfin := HS.out
        rw [hiL] at hfin
        have hall := Lib.hid (hfin.all (HL.out).symm)
        subst hiL
        clear hfin
        go_wp2
        go_ret
        exact ⟨hl, .inl ⟨hall.out, rfl⟩⟩
  · have hne : ((L : Int) != (n : Int)) = true := by simp; omega
    have hno : ¬ IsAsg n m (cst ls) l := fun h => hLn (hL.trans h.len)
    have HNO := Lib.hid hno
    clear hno T G hA' hL hLn
    go_enter Try.func48, Try.ntmps48
    go_wp2
    go_ret
    exact ⟨Below.refl _ _, .inr ⟨HNO.out, rfl⟩⟩

set_option maxHeartbeats 4000000 in
set_option maxRecDepth 100000 in
theorem total_any (B n m cA cL L : Nat) (A A' : Option Addr) (ls : List (List Int)) (l : List Int) (w : World) (T : Tab B w A ls) (G : Good n m ls) (hA' : Ints w A' l) (hL : L = l.length) (h1 : 1 ≤ n) (h2 : n ≤ m) (h3 : m ≤ 64) (hI : IsAsg n m (cst ls) l) :
    Calls Try.prog 49 #[.slice A n cA, .slice A' L cL] w fun e w' => e = .returned (.int .i64 (costN (cst ls) (colOf l) n)) ∧ w = w' := by
  have hLn : L = n := hL.trans hI.len
  subst hLn
  obtain ⟨g, off, A0, c0, rfl, hg, hr0, _⟩ := G.at_ T (i := 0) (by omega)
  have hrow := fun (i : Nat) (hi : i < L) => G.at_ T hi
  have hrng := fun i k hi hk => G.rng i k hi hk
  have HR := Lib.hid hrow
  have HG := Lib.hid hrng
  have HA := Lib.hid hA'
  have HL := Lib.hid hL
  have HI := Lib.hid hI
  clear hrow hrng hA' hL T G hI hr0
  go_enter Try.func49, Try.ntmps49
  go_wp2_with (fail)
  go_loop [5, 6, 7, 10] (fun s _ _ t => ∃ i : Nat, i ≤ L ∧ t = .int .i64 (i : Int) ∧ s = .int .i64 (costN (cst ls) (colOf l) i)) (fun _ _ _ t => L - (intOf t).toNat)
  case atStart => exact ⟨0, Nat.zero_le _, rfl, rfl⟩
  case round =>
    obtain ⟨i, hi, rfl, rfl⟩ := hrel
    by_cases hlt : i < L
    · obtain ⟨g1, off1, Ai, ci, eA, hg1, hci, hcell⟩ := HR.out i hlt
      injection eA with eA
      injection eA with e1 e2
      subst e1 e2
      obtain ⟨g2, off2, rfl, hg2, hcc⟩ := hcell (by omega)
      obtain ⟨g3, off3, x, rfl, hg3, hx, hcx⟩ := Ints.at_ HA.out (i := i) (by have := HL.out; omega)
      have hgx : l.getD i 0 = x := by rw [List.getD_eq_getElem?_getD, hx]; rfl
      have hp := HI.out.pos i hlt
      have hok := HI.out.asg.ok i hlt
      have hco : colOf l i = x.toNat := by unfold colOf; rw [hgx]
      rw [hgx] at hp
      obtain ⟨k, rfl⟩ : ∃ k : Nat, x = (k : Int) := ⟨x.toNat, by omega⟩
      rw [Int.toNat_natCast] at hco
      rw [hco] at hok
      have hkm := hok.1
      have hck := hcc k hkm
      have hrg := HG.out i k hlt hkm
      have hkI : (k : Int) < (m : Int) := by omega
      have hcs : costN (cst ls) (colOf l) (i + 1) = costN (cst ls) (colOf l) i + cst ls i k := by simp only [costN, sumN]; rw [hco]
      have hcb : -64000000000 ≤ costN (cst ls) (colOf l) i ∧ costN (cst ls) (colOf l) i ≤ 64000000000 := by
        have h5 := sumN_bound' (f := fun a => cst ls a (colOf l a)) (K := 1000000000) (n := i) fun a ha => by
          have := HG.out a (colOf l a) (by omega) (HI.out.asg.ok a (by omega)).1
          omega
        unfold costN
        omega
      have HCS := Lib.hid hcs
      clear hx hgx hp hok hco hcc hcell hcs
      generalize costN (cst ls) (colOf l) i = sm at *
      generalize cst ls i k = v at *
      have hw2 : IntKind.i64.wrap (sm + v) = sm + v := wrapI (by omega) (by omega)
      go_wp2
      go_round
      case rel => exact ⟨i + 1, by omega, by go_num, by rw [HCS.out]⟩
      case measure => simp [intOf]; omega
    · obtain rfl : i = L := by omega
      go_wp2
      go_ret
      exact ⟨rfl, rfl⟩

end Go.Proofs.Ytncmfjncdhhjoaa
