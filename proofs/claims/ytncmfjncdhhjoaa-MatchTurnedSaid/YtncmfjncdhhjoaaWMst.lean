/- Most: how many rows can have columns at the same time. -/
import Derived.Test.YtncmfjncdhhjoaaMMst
import Derived.Test.YtncmfjncdhhjoaaWHall
namespace Go.Proofs.Ytncmfjncdhhjoaa
open Go.RowKit

theorem Mst.own {m : Nat} {may : Nat → Nat → Bool} {i c : Nat} {o : Nat → Int} (h : Mst m may i o c) : Inj m o ∧ ∀ q, Has m o q → q < i := by
  induction h with
  | zero =>
    refine ⟨fun i j _ _ _ h => ?_, fun q ⟨j, _, e⟩ => ?_⟩
    · (try dsimp only at h); omega
    · (try dsimp only at e); omega
  | hit h R ih =>
    rename_i i c o o' s
    obtain ⟨h1, h2⟩ := ih
    have A := R.found h1 (fun hh => by have := h2 i hh; omega)
    refine ⟨A.inj, fun q hq => ?_⟩
    rcases (A.rows q).1 hq with h3 | rfl
    · have := h2 q h3; omega
    · omega
  | miss h R ih =>
    refine ⟨ih.1, fun q hq => ?_⟩
    have := ih.2 q hq; omega
theorem unhide {p : Prop} (h : Hid p) : p := h.out
def MostPost (w : World) (ls : List (List Int)) (e : Ending) (w' : World) : Prop :=
  Below w.heap.size w w' ∧ ((chkT ls = false ∧ e = .returned (.tuple #[.int .i64 0, .int .i64 1])) ∨
    (∃ n m o c, chkT ls = true ∧ ls.length = n ∧ Good n m ls ∧ (1 ≤ n ∧ n ≤ m ∧ m ≤ 64) ∧ Mst m (mayC (cst ls)) n o c ∧ e = .returned (.tuple #[.int .i64 (c : Int), .int .i64 0])))

theorem Mst.le {m : Nat} {may : Nat → Nat → Bool} {i c : Nat} {o : Nat → Int} (h : Mst m may i o c) : c ≤ i := by
  induction h with
  | zero => exact Nat.le_refl _
  | hit h R ih => omega
  | miss h R ih => omega
set_option maxHeartbeats 4000000 in
set_option maxRecDepth 100000 in
theorem most_any (A : Option Addr) (c L : Nat) (ls : List (List Int)) (w : World) (T : Tab w.heap.size w A ls) (hL : L = ls.length) :
    Calls Try.prog 35 #[.slice A L c] w (MostPost w ls) := by
  have hck := check_any w.heap.size A c L ls w T hL
  cases hchk : chkT ls with
  | false =>
    have hce : ckE ls = 1 := by unfold ckE; rw [hchk]; rfl
    rw [hce] at hck
    have HCK := Lib.hid hck
    clear hck hL T hce
    go_enter Try.func35, Try.ntmps35
    go_wp2_with (go_at_call 25; refine (HCK.out).mono ?_; rintro e w1 ⟨rfl, rfl⟩)
    go_ret2
    exact ⟨Below.refl _ _, .inl ⟨hchk, rfl⟩⟩
  | true =>
    have hce : ckE ls = 0 := by unfold ckE; rw [hchk]; rfl
    rw [hce] at hck
    obtain ⟨n, m, hn, hm, h1, h2, h3, G⟩ := chkT_good hchk
    have hLn : L = n := by omega
    subst hLn
    have hal := allowed_any w.heap.size L m c A ls w G T (Nat.le_refl _) h1
    have HCK := Lib.hid hck
    have HG := Lib.hid G
    have HG9 := Lib.hid G
    have HT := Lib.hid T
    have HCH := Lib.hid hchk
    have HNN := Lib.hid hn
    have HAL := Lib.hid hal
    clear hck hL T hce hn hm G hchk hal
    go_enter Try.func35, Try.ntmps35
    go_wp2_with (first
      | (go_at_call 25; refine (HCK.out).mono ?_; rintro e w1 ⟨rfl, rfl⟩)
      | (go_at_call 60; refine (HAL.out).mono ?_; rintro e w2 ⟨b, rfl, hb1, hb2, hb3, hl2⟩)
      | (go_at_call 59; refine (newPairing_any _ _ _ m (by omega) h3 _).mono ?_; rintro e w3 ⟨pp, ho, hk, hs, rfl, hPa, hl3⟩))
    have hmay : ∀ W, Below w2.heap.size w2 W → ∀ row k, row < L → k < m → Calls Try.prog 76 #[.int .i64 ((row : Nat) : Int), .int .i64 ((k : Nat) : Int), .pointer (some ⟨b, 0, none⟩)] W fun e w' => e = .returned (.bool (mayC (cst ls) row k)) ∧ Below W.heap.size W w' :=
      fun W hW row k hrow hk => allowedC_any w.heap.size b L m c row k A ls W ((hW.cell (p := ⟨b, 0, none⟩) hb2).trans hb3) HG.out (HT.out.keep (hl2.trans (hW.mono hl2.size))) hrow hk
    have hcall := fun (W : World) (i cc : Nat) (o : Nat → Int) (s : Nat → Bool) (hl : Below w2.heap.size w2 W) (hP : PaM [] w2.heap.size W pp ho hk hs (.func (.func 76) #[] #[.pointer (some ⟨b, 0, none⟩)]) m o (fun _ => false) s) (S : Mst m (mayC (cst ls)) i o cc) (hi : i < L) =>
      findPairA [] w2.heap.size pp ho hk hs m (.pointer (some ⟨b, 0, none⟩)) (fun _ => false) (mayC (cst ls)) (fun q => q < L) w2 h3 hmay i o s W hl hi S.dom (fun j hj q e => by
        have := S.own.2 q ⟨j, hj, e⟩; omega) hP
    have HC := Lib.hid hcall
    have HP := Lib.hid hPa
    clear hcall hPa hmay hb1 hb2 hb3 HT HG
    have HL3 := Lib.hid hl3
    have HL2 := Lib.hid hl2
    clear hl3 hl2
    go_wp2_with (fail)
    go_loopw [5, 6, 15] (fun q _ t wr => ∃ (i cc : Nat) (o : Nat → Int) (s : Nat → Bool), i ≤ L ∧ cc ≤ i ∧ t = .int .i64 (i : Int) ∧ q = .int .i64 (cc : Int) ∧ PaM [] w2.heap.size wr pp ho hk hs (.func (.func 76) #[] #[.pointer (some ⟨b, 0, none⟩)]) m o (fun _ => false) s ∧ Hid (Mst m (mayC (cst ls)) i o cc) ∧ Below w2.heap.size w2 wr) (fun _ _ t _ => L - (intOf t).toNat)
    case atStart => exact ⟨0, 0, _, _, Nat.zero_le _, Nat.le_refl _, rfl, rfl, HP.out, Lib.hid Mst.zero, HL3.out⟩
    case round =>
      clear HP HL3
      obtain ⟨i, cc, o, s, hi, hci, rfl, rfl, hP, HS, hl⟩ := hrel
      by_cases hlt : i < L
      · have HCL := Lib.hid (HC.out wr i cc o s hl hP HS.out hlt)
        have hlt2 : (i : Int) < (L : Int) := by omega
        clear hP
        go_wp2_with (go_at_call 61; refine (HCL.out).mono ?_; rintro e w4 ⟨bb, o', s', rfl, hroom, hP1, hl1⟩; have HRM := Lib.hid hroom; clear hroom; refine unhide ?_)
        refine Lib.hid ?_
        cases bb with
        | true =>
          have HS2 := Lib.hid (Mst.hit HS.out HRM.out)
          clear HRM
          go_wp2_with (fail)
          go_roundw
          case rel => exact ⟨i + 1, cc + 1, o', s', by omega, by omega, by go_num, by go_num, hP1, HS2, hl.trans hl1⟩
          case measure => simp [intOf]; omega
        | false =>
          have hoo := HRM.out.frame.2 rfl
          subst hoo
          have HS2 := Lib.hid (Mst.miss HS.out HRM.out)
          clear HRM
          go_wp2_with (fail)
          go_roundw
          case rel => exact ⟨i + 1, cc, o', s', by omega, by omega, by go_num, rfl, hP1, HS2, hl.trans hl1⟩
          case measure => simp [intOf]; omega
      · obtain rfl : i = L := by omega
        go_wp2
        go_ret2
        exact ⟨HL2.out.trans (hl.mono HL2.out.size), .inr ⟨i, m, o, cc, HCH.out, HNN.out, HG9.out, ⟨h1, h2, h3⟩, HS.out, rfl⟩⟩
end Go.Proofs.Ytncmfjncdhhjoaa
