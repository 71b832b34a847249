/- New, whatever it is given. -/
import Derived.Test.YtpaemlkikkcjiaaWNewM
namespace Go.Proofs.Ytpaemlkikkcjiaa
open Go.RowKit

set_option maxHeartbeats 2000000 in
set_option maxRecDepth 100000 in
theorem new_bad (keys sp : Int) (n c : Nat) (ad : Addr) (rs : List Rg) (w : World) (hA : Vals w (some ad) (rgL rs)) (hn : n = rs.length) (hb : newB keys sp rs = false) (hn2 : n ≤ 1000) :
    Calls Try.prog 38 #[.int .i64 keys, .int .i64 sp, .slice (some ad) n c] w fun e w' => e = .returned (.tuple #[.pointer none, .int .i64 1]) ∧ Below w.heap.size w w' := by
  have hw1 := within_any keys 1 64
  have hw2 := within_any sp 1 1000
  have hw3 := within_any (n : Int) 1 4
  have har := areRegs_any (some ad) c n rs w hA hn (by omega)
  unfold newB at hb
  rw [← hn] at hb
  cases h1 : inB keys 1 64 with
  | false =>
    rw [h1] at hw1
    have HW1 := Lib.hid hw1
    clear hw1 hw2 hw3 har hb h1 hA hn
    go_enter Try.func38, Try.ntmps38
    go_wp2_with (go_at_call 61; (with_reducible refine (HW1.out _).mono ?_); rintro e w1 ⟨rfl, rfl⟩)
    go_ret2
    exact ⟨rfl, Below.refl _ _⟩
  | true =>
    rw [h1] at hw1 hb
    cases h2 : inB sp 1 1000 with
    | false =>
      rw [h2] at hw2
      have HW1 := Lib.hid hw1
      have HW2 := Lib.hid hw2
      clear hw1 hw2 hw3 har hb h1 h2 hA hn
      go_enter Try.func38, Try.ntmps38
      go_wp2_with (first
        | (go_at_call 61; (with_reducible refine (HW1.out _).mono ?_); rintro e w1 ⟨rfl, rfl⟩)
        | (go_at_call 61; (with_reducible refine (HW2.out _).mono ?_); rintro e w1 ⟨rfl, rfl⟩))
      go_ret2
      exact ⟨rfl, Below.refl _ _⟩
    | true =>
      rw [h2] at hw2 hb
      cases h3 : inB (n : Int) 1 4 with
      | false =>
        rw [h3] at hw3
        have HW1 := Lib.hid hw1
        have HW2 := Lib.hid hw2
        have HW3 := Lib.hid hw3
        clear hw1 hw2 hw3 har hb h1 h2 h3 hA hn
        go_enter Try.func38, Try.ntmps38
        go_wp2_with (first
          | (go_at_call 61; (with_reducible refine (HW1.out _).mono ?_); rintro e w1 ⟨rfl, rfl⟩)
          | (go_at_call 61; (with_reducible refine (HW2.out _).mono ?_); rintro e w1 ⟨rfl, rfl⟩)
          | (go_at_call 61; (with_reducible refine (HW3.out _).mono ?_); rintro e w1 ⟨rfl, rfl⟩))
        go_ret2
        exact ⟨rfl, Below.refl _ _⟩
      | true =>
        rw [h3] at hw3 hb
        have h4 : rs.all okReg = false := by simpa using hb
        rw [h4] at har
        have HW1 := Lib.hid hw1
        have HW2 := Lib.hid hw2
        have HW3 := Lib.hid hw3
        have HAR := Lib.hid har
        clear hw1 hw2 hw3 har hb h1 h2 h3 h4 hA hn
        go_enter Try.func38, Try.ntmps38
        go_wp2_with (first
          | (go_at_call 61; (with_reducible refine (HW1.out _).mono ?_); rintro e w1 ⟨rfl, rfl⟩)
          | (go_at_call 61; (with_reducible refine (HW2.out _).mono ?_); rintro e w1 ⟨rfl, rfl⟩)
          | (go_at_call 61; (with_reducible refine (HW3.out _).mono ?_); rintro e w1 ⟨rfl, rfl⟩)
          | (go_at_call 66; refine (HAR.out).mono ?_; rintro e w2 ⟨rfl, hb2⟩))
        go_ret2
        exact ⟨rfl, hb2⟩
theorem new_any (keys sp : Int) (n c : Nat) (ad : Addr) (rs : List Rg) (w : World) (hA : Vals w (some ad) (rgL rs)) (hn : n = rs.length) (hn2 : n ≤ 1000) :
    Calls Try.prog 38 #[.int .i64 keys, .int .i64 sp, .slice (some ad) n c] w (NewPost keys sp rs w) := by
  cases hb : newB keys sp rs with
  | false =>
    refine (new_bad keys sp n c ad rs w hA hn hb hn2).mono ?_
    rintro e w' ⟨rfl, h⟩
    exact ⟨h, .inl ⟨hb, rfl⟩⟩
  | true =>
    obtain ⟨K, rfl, _⟩ := newB_ok hb
    exact new_ok K n c sp ad rs w hA hn hb
end Go.Proofs.Ytpaemlkikkcjiaa
