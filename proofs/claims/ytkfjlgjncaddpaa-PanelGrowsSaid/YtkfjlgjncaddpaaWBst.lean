/- Best: the plan of the best choices, and its value. -/
import Derived.Test.YtkfjlgjncaddpaaWAdd
namespace Go.Proofs.Ytkfjlgjncaddpaa
open Go.RowKit

/-- What Best leaves. -/
def BstPost (W H K : Int) (ss : List Sh) (w : World) (e : Ending) (w' : World) : Prop :=
  Below w.heap.size w w' ∧ ((okP W H K ss = false ∧ e = .returned (.tuple #[.slice none 0 0, .int .i64 0, .int .i64 1])) ∨
    ∃ i j k : Nat, W = (i : Int) ∧ H = (j : Int) ∧ K = (k : Int) ∧ okP W H K ss = true ∧ ∃ g cap, e = .returned (.tuple #[.slice (some ⟨g, 0, none⟩) (planF k ss i j).length cap, .int .i64 (best k ss i j).v, .int .i64 0]) ∧
      w.heap.size ≤ g ∧ (planF k ss i j).length ≤ cap ∧ cap ≤ maxLen ∧ g < w'.heap.size ∧ CuAt w' (some ⟨g, 0, none⟩) (planF k ss i j))
set_option maxHeartbeats 4000000 in
set_option maxRecDepth 100000 in
theorem pbest_any (W H K : Int) (A : Option Addr) (c L : Nat) (ss : List Sh) (w : World) (hA : ShAt w A ss) (hL : L = ss.length) (hLs : L ≤ 1000000) :
    Calls Try.prog 23 #[.int .i64 W, .int .i64 H, .int .i64 K, .slice A L c] w (BstPost W H K ss w) := by
  have hck := check_any W H K A c L ss w hA hL hLs
  cases hok : okP W H K ss with
  | false =>
    have e : ckE W H K ss = 1 := by unfold ckE; rw [hok]; rfl
    rw [e] at hck
    have HCK := Lib.hid hck
    have HOK := Lib.hid hok
    clear hck hok e hA hL
    go_enter Try.func23, Try.ntmps23
    go_wp2_with (go_at_call 19; refine (HCK.out).mono ?_; rintro e w1 ⟨rfl, hb1⟩)
    go_ret3
    exact ⟨hb1, .inl ⟨HOK.out, rfl⟩⟩
  | true =>
    have e : ckE W H K ss = 0 := by unfold ckE; rw [hok]; rfl
    rw [e] at hck
    obtain ⟨i, j, k, rfl, rfl, rfl, hi1, hi, hj1, hj, hk, hlen, hoks⟩ := okP_ok hok
    have hns := fun w1 (hb : Below w.heap.size w w1) => newSaw_any i j k A L c ss w1 (hA.keep hb) hL (by omega) hoks hi hj hk
    have HCK := Lib.hid hck
    have HOK := Lib.hid hok
    have HNS := Lib.hid hns
    have hT : ∀ a b, 1 ≤ a → 1 ≤ b → a ≤ i → b ≤ j → filT k ss j (i + 1) 1 a b = best k ss a b := fun a b h1 h2 h3 h4 => filT_at _ _ _ _ _ _ _ (by omega)
    have HT := Lib.hid hT
    have hpl := planF_len (kerf := k) (ss := ss) hi1 hj1 hi hj
    have hpos : 0 < (planF k ss i j).length := by
      unfold planF
      obtain ⟨n, hn⟩ : ∃ n, i + j = n + 1 := ⟨i + j - 1, by omega⟩
      rw [hn, planN_at hi1 hj1 rfl rfl]; simp
    have HPL := Lib.hid hpl
    have HPO := Lib.hid hpos
    clear hck hok e hA hL hns hT hpl hoks hlen hpos
    go_enter Try.func23, Try.ntmps23
    go_upto_region 5 with (first | (go_at_call 19; refine (HCK.out).mono ?_; rintro e w1 ⟨rfl, hb1⟩) | (go_at_call 40; refine (HNS.out _ hb1).mono ?_; rintro e w2 ⟨p, rfl, hp, hm, hb2⟩))
    have hlp : p < w2.heap.size := hm.lt
    have k2 := hm.tv i j (by omega) (by omega)
    rw [HT.out i j hi1 hj1 (Nat.le_refl _) (Nat.le_refl _)] at k2
    have hadd : Calls Try.prog 44 #[.pointer (some ⟨p, 0, none⟩), .slice none 0 0, .agg #[.int .i64 0, .int .i64 0, .int .i64 (i : Int), .int .i64 (j : Int)]] w2.drew fun e w' =>
        ∃ v', e = .returned v' ∧ w'.ownsRow w2.heap.size 73 2 v' (planF k ss i j).length (cc (planF k ss i j)) ∧ Below w2.heap.size w2 w' ∧ w'.cell? ⟨p, 2 + i * 195 + j * 3 + 2, none⟩ = some (.int .i64 (best k ss i j).v) := by
      have h := addPlan_any p k A L c ss (filT k ss j (i + 1) 1) i j w2.heap.size hi hj hk HT.out hlp (i + j) i j 0 0 (.slice none 0 0) [] w2.drew (by omega) (by omega) (by omega) (by omega) (by omega) (by omega) (by omega) (by omega) (by omega) hm.drew (Nat.le_refl _) (own_nil _ _ _ _) (by have := HPL.out; unfold planF at this; simp; omega)
      refine h.mono fun e w' ⟨v', h1, h2, h3⟩ => ?_
      have hb3 : Below w2.heap.size w2 w' := ((Below.refl w2.heap.size w2).drew).trans (h3.below (Nat.le_refl _) (fun g hg => by simp [Value.ownBlock] at hg))
      exact ⟨v', h1, h2, hb3, by rw [hb3.cell (p := ⟨p, _, none⟩) hlp]; exact k2⟩
    have HAD := Lib.hid hadd
    have hbw := below_on hb1 hb1.size hb2
    have HBW := Lib.hid hbw
    have hws : w.heap.size ≤ w2.heap.size := hbw.size
    have i65 : (i : Int) < 65 := by omega
    have j65 : (j : Int) < 65 := by omega
    have k2' : w2.drew.cell? ⟨p, 2 + i * 195 + j * 3 + 2, none⟩ = some (.int .i64 (best k ss i j).v) := k2
    clear hadd hm hbw hb1 hb2 HT hp
    go_region_held3 (fun w' => w'.cell? ⟨p, 2 + i * 195 + j * 3 + 2, none⟩ = some (.int .i64 (best k ss i j).v))
      (first | with_reducible exact k2' | with_reducible exact k3)
      ((first
        | (go_at_call 44; (with_reducible refine (HAD.out).mono ?_); rintro e w3 ⟨v3, rfl, ho3, hb3, k3⟩)))
    go_wp2
    go_ret3
    refine ⟨below_on HBW.out HBW.out.size hb3, .inr ⟨i, j, k, rfl, rfl, rfl, HOK.out, ?_⟩⟩
    have hne : v3 ≠ .slice none 0 0 := by
      rintro rfl
      obtain ⟨h1, ⟨_, h2⟩ | ⟨g, cap, cur, e, _⟩⟩ := ho3
      · have := HPO.out; omega
      · injection e with e; cases e
    obtain ⟨g, cap, rfl, h1, h2, h3, h4, h5⟩ := own_hd ho3 hne
    exact ⟨g, cap, rfl, Nat.le_trans hws h1, h2, h3, h5.lt, h5.vals⟩
end Go.Proofs.Ytkfjlgjncaddpaa
