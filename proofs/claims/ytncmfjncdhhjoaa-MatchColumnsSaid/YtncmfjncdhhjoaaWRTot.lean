/- The reference's Total. -/
import Derived.Test.YtncmfjncdhhjoaaWCk
import Derived.Test.YtncmfjncdhhjoaaMem
namespace Go.Proofs.Ytncmfjncdhhjoaa
open Go.RowKit

theorem sumN_bound' {f : Nat → Int} {K : Int} {n : Nat} (h : ∀ i, i < n → -K ≤ f i ∧ f i ≤ K) : -((n : Int) * K) ≤ sumN f n ∧ sumN f n ≤ (n : Int) * K := by
  induction n with
  | zero => simp [sumN]
  | succ n ih =>
    have h1 := ih fun i hi => h i (by omega)
    have h2 := h n (by omega)
    have e : ((n + 1 : Nat) : Int) * K = (n : Int) * K + K := by rw [show ((n + 1 : Nat) : Int) = (n : Int) + 1 by omega, Int.add_mul, Int.one_mul]
    simp only [sumN]
    rw [e]
    omega
/-- The columns that a list names. -/
def colOf (l : List Int) (i : Nat) : Nat := (l.getD i 0).toNat
/-- A list is an assignment. -/
structure IsAsg (n m : Nat) (c : Nat → Nat → Int) (l : List Int) : Prop where
  len : l.length = n
  pos : ∀ i, i < n → 0 ≤ l.getD i 0
  asg : Asg n m c (colOf l)
/-- The first i rows are right. -/
structure AsgTo (m : Nat) (c : Nat → Nat → Int) (l : List Int) (i : Nat) : Prop where
  pos : ∀ a, a < i → 0 ≤ l.getD a 0
  ok : ∀ a, a < i → colOf l a < m ∧ c a (colOf l a) ≠ -1
  inj : ∀ a b, a < i → b < i → l.getD a 0 = l.getD b 0 → a = b
theorem asgTo_zero (m : Nat) (c : Nat → Nat → Int) (l : List Int) : AsgTo m c l 0 := ⟨fun a h => by omega, fun a h => by omega, fun a b h => by omega⟩
theorem AsgTo.next {m : Nat} {c : Nat → Nat → Int} {l : List Int} {i : Nat} (h : AsgTo m c l i) (hp : 0 ≤ l.getD i 0) (hm : colOf l i < m) (hc : c i (colOf l i) ≠ -1)
    (hn : ∀ k, k < i → l.getD k 0 ≠ l.getD i 0) : AsgTo m c l (i + 1) := by
  refine ⟨fun a ha => ?_, fun a ha => ?_, fun a b ha hb e => ?_⟩
  · by_cases e : a = i
    · rw [e]; exact hp
    · exact h.pos a (by omega)
  · by_cases e : a = i
    · rw [e]; exact ⟨hm, hc⟩
    · exact h.ok a (by omega)
  · by_cases ea : a = i
    · by_cases eb : b = i
      · omega
      · subst ea; exact absurd e.symm (hn b (by omega))
    · by_cases eb : b = i
      · subst eb; exact absurd e (hn a (by omega))
      · exact h.inj a b (by omega) (by omega) e
theorem AsgTo.all {n m : Nat} {c : Nat → Nat → Int} {l : List Int} (h : AsgTo m c l n) (hl : l.length = n) : IsAsg n m c l := by
  refine ⟨hl, h.pos, ⟨h.ok, fun i j hi hj e => h.inj i j hi hj ?_⟩⟩
  have h1 := h.pos i hi
  have h2 := h.pos j hj
  unfold colOf at e
  omega

def TotPost (w : World) (n m : Nat) (c : Nat → Nat → Int) (l : List Int) (e : Ending) (w' : World) : Prop :=
  Below w.heap.size w w' ∧ ((IsAsg n m c l ∧ e = .returned (.tuple #[.int .i64 (costN c (colOf l) n), .bool true])) ∨ (¬ IsAsg n m c l ∧ e = .returned (.tuple #[.int .i64 0, .bool false])))

set_option maxHeartbeats 4000000 in
set_option maxRecDepth 100000 in
theorem refTotal_any (B n m cA cL L : Nat) (A A' : Option Addr) (ls : List (List Int)) (l : List Int) (w : World) (T : Tab B w A ls) (G : Good n m ls) (hA' : Ints w A' l) (hL : L = l.length) (h1 : 1 ≤ n) (h2 : n ≤ m) (h3 : m ≤ 64) (hl : L ≤ 1000) :
    Calls Try.prog 27 #[.slice A n cA, .slice A' L cL] w (TotPost w n m (cst ls) l) := by
  by_cases hLn : L = n
  · subst hLn
    obtain ⟨g, off, A0, c0, rfl, hg, hr0, _⟩ := G.at_ T (i := 0) (by omega)
    have hr0' : w.cell? ⟨g, off, none⟩ = some (.slice A0 m c0) := hr0
    have hrow := fun (i : Nat) (hi : i < L) => G.at_ T hi
    have hrng := fun i k hi hk => G.rng i k hi hk
    have HR := Lib.hid hrow
    have HG := Lib.hid hrng
    have HA := Lib.hid hA'
    have HL := Lib.hid hL
    have hne : ((L : Int) != (L : Int)) = false := by simp
    have hm1 : IntKind.i64.wrap ((m : Int) - 1) = (m : Int) - 1 := wrapI (by omega) (by omega)
    clear hrow hrng hA' hL T G
    go_enter Try.func27, Try.ntmps27
    go_wp2_with (fail)
    go_loopw [6, 7, 8] (fun s t _ wr => ∃ i z : Nat, i ≤ L ∧ t = .int .i64 (i : Int) ∧ s = .int .i64 (costN (cst ls) (colOf l) i) ∧ Hid (AsgTo m (cst ls) l i) ∧ wr = w.drewN z) (fun _ t _ _ => L - (intOf t).toNat)
    case atStart => exact ⟨0, 0, Nat.zero_le _, rfl, rfl, Lib.hid (asgTo_zero _ _ _), rfl⟩
    case round =>
      obtain ⟨i, z, hi, rfl, rfl, HS, rfl⟩ := hrel
      by_cases hlt : i < L
      · obtain ⟨g1, off1, Ai, ci, eA, hg1, hci, hcell⟩ := HR.out i hlt
        injection eA with eA
        injection eA with e1 e2
        subst e1 e2
        obtain ⟨g2, off2, rfl, hg2, hcc⟩ := hcell (by omega)
        obtain ⟨g3, off3, x, rfl, hg3, hx, hcx⟩ := Ints.at_ HA.out (i := i) (by have := HL.out; omega)
        have hgx : l.getD i 0 = x := by rw [List.getD_eq_getElem?_getD, hx]; rfl
        have HX := Lib.hid hx
        have HGX := Lib.hid hgx
        clear hx hgx hcell
        have hin := fun W => in_any x 0 ((m : Int) - 1) W
        have HIN := Lib.hid hin
        clear hin
        cases hb : inB x 0 ((m : Int) - 1) with
        | false =>
          rw [hb] at HIN
          have hno : ¬ IsAsg L m (cst ls) l := fun h => by
            have h1 := h.pos i hlt
            have h2 := (h.asg.ok i hlt).1
            unfold colOf at h2
            rw [HGX.out] at h1 h2
            exact inB_f hb ⟨h1, by omega⟩
          have HNO := Lib.hid hno
          clear hno hb hcc
          go_wp2_with (fail)
          go_quiet ((go_at_call 47; first | exact quiet_a (HIN.out _) | exact ((HIN.out _).mono fun _ _ ⟨he, hm⟩ => ⟨he, _, hm.symm⟩)))
          go_wp2
          go_ret2
          exact ⟨by first | exact below_drewN (Below.refl _ _) _ | exact below_drewN (below_drewN (Below.refl _ _) _) _, .inr ⟨HNO.out, rfl⟩⟩
        | true =>
          rw [hb] at HIN
          have hxx := inB_t hb
          obtain ⟨k, rfl⟩ : ∃ k : Nat, x = (k : Int) := ⟨x.toNat, by omega⟩
          have hkm : k < m := by omega
          have hck := hcc k hkm
          have hco : colOf l i = k := by unfold colOf; rw [HGX.out]; simp
          have hrg := HG.out i k hlt hkm
          have HCO := Lib.hid hco
          have hcs : costN (cst ls) (colOf l) (i + 1) = costN (cst ls) (colOf l) i + cst ls i k := by simp only [costN, sumN]; rw [hco]
          have hcb : 0 ≤ costN (cst ls) (colOf l) i ∧ costN (cst ls) (colOf l) i ≤ (i : Int) * 1000000000 := by
            have h5 := sumN_bound' (f := fun a => cst ls a (colOf l a)) (K := 1000000000) (n := i) fun a ha => by
              have := HG.out a (colOf l a) (by omega) (HS.out.ok a ha).1
              omega
            have h6 := sumN_nonneg (f := fun a => cst ls a (colOf l a)) (n := i) fun a ha => by
              have h7 := HG.out a (colOf l a) (by omega) (HS.out.ok a ha).1
              have h8 := (HS.out.ok a ha).2
              omega
            exact ⟨h6, h5.2⟩
          have HCS := Lib.hid hcs
          have HC0 : ∀ v, v = cst ls i k → (v < 0 → ¬ IsAsg L m (cst ls) l) := fun v hv hlt0 h => by
            have h2 := (h.asg.ok i hlt).2
            rw [HCO.out, ← hv] at h2
            rw [← hv] at hrg
            omega
          have HC1 := Lib.hid HC0
          have HNX : ∀ v, v = cst ls i k → 0 ≤ v → (∀ a, a < i → l.getD a 0 ≠ (k : Int)) → AsgTo m (cst ls) l (i + 1) := fun v hv hge hne' =>
            HS.out.next (by rw [HGX.out]; omega) (by rw [HCO.out]; exact hkm) (by rw [HCO.out, ← hv]; omega) (fun a ha => by rw [HGX.out]; exact hne' a ha)
          have HNX1 := Lib.hid HNX
          clear hb hcc hco hcs HC0 HNX
          generalize hv : cst ls i k = v at *
          have HV := Lib.hid hv
          clear hv
          generalize costN (cst ls) (colOf l) i = sm at *
          by_cases hv0 : v < 0
          · have HNO := Lib.hid (HC1.out v rfl hv0)
            have hd : decide (v < 0) = true := by simpa using hv0
            clear hv0 HC1 HNX1
            go_wp2_with (fail)
            go_quiet ((go_at_call 47; first | exact quiet_a (HIN.out _) | exact ((HIN.out _).mono fun _ _ ⟨he, hm⟩ => ⟨he, _, hm.symm⟩)))
            go_wp2
            go_ret2
            exact ⟨by first | exact below_drewN (Below.refl _ _) _ | exact below_drewN (below_drewN (Below.refl _ _) _) _, .inr ⟨HNO.out, rfl⟩⟩
          · have hd : decide (v < 0) = false := by simpa using hv0
            have HN2 := Lib.hid (HNX1.out v rfl (by omega))
            clear HNX1 HC1
            go_wp2_with (fail)
            go_quiet ((go_at_call 47; first | exact quiet_a (HIN.out _) | exact ((HIN.out _).mono fun _ _ ⟨he, hm⟩ => ⟨he, _, hm.symm⟩)))
            go_wp2_with (fail)
            go_loopw [8] (fun t wr => ∃ a y : Nat, a ≤ i ∧ t = .int .i64 (a : Int) ∧ Hid (∀ b, b < a → l.getD b 0 ≠ (k : Int)) ∧ wr = w.drewN y) (fun t _ => i - (intOf t).toNat)
            case atStart => exact ⟨0, z + nq, Nat.zero_le _, rfl, Lib.hid (fun b hb => by omega), by simp⟩
            case round =>
              obtain ⟨a, y, ha, rfl, HNE, rfl⟩ := hrel
              by_cases hla : a < i
              · obtain ⟨g4, off4, x4, e4, hg4, hx4, hcx4⟩ := Ints.at_ HA.out (i := a) (by have := HL.out; omega)
                injection e4 with e4
                injection e4 with e5 e6
                subst e5 e6
                have hgx4 : l.getD a 0 = x4 := by rw [List.getD_eq_getElem?_getD, hx4]; rfl
                have HGX4 := Lib.hid hgx4
                clear hx4 hgx4
                by_cases hxe : x4 = (k : Int)
                · have hno : ¬ IsAsg L m (cst ls) l := fun h => by
                    have h9 := h.asg.inj a i (by omega) hlt (by unfold colOf; rw [HGX4.out, HGX.out, hxe])
                    omega
                  have hbb : (x4 == (k : Int)) = true := by simpa using hxe
                  have HNO := Lib.hid hno
                  clear hno hxe
                  go_wp2_with (fail)
                  go_quiet (fail)
                  go_wp2
                  go_ret2
                  exact ⟨by first | exact below_drewN (Below.refl _ _) _ | exact below_drewN (below_drewN (Below.refl _ _) _) _, .inr ⟨HNO.out, rfl⟩⟩
                · have hbb : (x4 == (k : Int)) = false := by simpa using hxe
                  have HNE2 : Hid (∀ b, b < a + 1 → l.getD b 0 ≠ (k : Int)) := Lib.hid (fun b hb => by
                    by_cases e : b = a
                    · subst e; rw [HGX4.out]; exact hxe
                    · exact HNE.out b (by omega))
                  clear hxe
                  go_wp2_with (fail)
                  go_quiet (fail)
                  go_wp2_with (fail)
                  go_roundw
                  case rel => exact ⟨a + 1, _, by omega, by go_num, HNE2, rfl⟩
                  case measure => simp [intOf]; omega
              · have hai : a = i := by omega
                subst hai
                have HS2 := Lib.hid (HN2.out HNE.out)
                have hw2 : IntKind.i64.wrap (sm + v) = sm + v := wrapI (by omega) (by omega)
                clear HN2
                go_wp2_with (fail)
                go_quiet (fail)
                go_wp2_with (fail)
                go_roundw
                case rel => exact ⟨a + 1, _, by omega, by go_num, by rw [HCS.out], HS2, rfl⟩
                case measure => simp [intOf]; omega
      · have hiL : i = L := by omega
        have hfin := HS.out
        rw [hiL] at hfin
        have hall := Lib.hid (hfin.all (HL.out).symm)
        subst hiL
        clear hfin
        go_wp2
        go_ret2
        exact ⟨below_drewN (Below.refl _ _) _, .inl ⟨hall.out, rfl⟩⟩
  · have hne : ((L : Int) != (n : Int)) = true := by simp; omega
    have hno : ¬ IsAsg n m (cst ls) l := fun h => hLn (hL.trans h.len)
    have HNO := Lib.hid hno
    clear hno T G hA' hL hLn
    go_enter Try.func27, Try.ntmps27
    go_wp2
    go_ret2
    exact ⟨Below.refl _ _, .inr ⟨HNO.out, rfl⟩⟩

end Go.Proofs.Ytncmfjncdhhjoaa
