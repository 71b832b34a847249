/- The reference: the value of a part, of a shape. -/
import Derived.Test.YtkfjlgjncaddpaaGr
import Derived.Test.YtkfjlgjncaddpaaWSm
import Derived.Deep.Cut
import Derived.Deep.CutRange
namespace Go.Proofs.Ytkfjlgjncaddpaa
open Go.RowKit

/-- A table that is read: n rows of H numbers. -/
structure TbR (w : World) (g n H : Nat) (gs : Nat → Nat) (C : Nat → Nat → Int) : Prop where
  sp : ∀ r, r < n → w.cell? ⟨g, r, none⟩ = some (.slice (some ⟨gs r, 0, none⟩) H H)
  row : ∀ r y, r < n → y < H → w.cell? ⟨gs r, y, none⟩ = some (.int .i64 (C r y))
  lt : (0 < n → g < w.heap.size) ∧ ∀ r, r < n → gs r < w.heap.size
theorem TbR.keep {w w' : World} {g n H : Nat} {gs : Nat → Nat} {C : Nat → Nat → Int} (h : TbR w g n H gs C) (hb : Below w.heap.size w w') : TbR w' g n H gs C :=
  ⟨fun r hr => (hb.cell (p := ⟨g, r, none⟩) (h.lt.1 (by omega))).trans (h.sp r hr), fun r y hr hy => (hb.cell (p := ⟨gs r, y, none⟩) (h.lt.2 r hr)).trans (h.row r y hr hy), fun hn => Nat.lt_of_lt_of_le (h.lt.1 hn) hb.size, fun r hr => Nat.lt_of_lt_of_le (h.lt.2 r hr) hb.size⟩
/-- The value of a rectangle by such a table. -/
def pc (C : Nat → Nat → Int) (a b : Int) : Int := if a < 1 ∨ b < 1 then 0 else C (a.toNat - 1) (b.toNat - 1)
set_option maxHeartbeats 1000000 in
set_option maxRecDepth 100000 in
theorem part_any (g n c H : Nat) (gs : Nat → Nat) (C : Nat → Nat → Int) (a b : Int) (w : World) (h : TbR w g n H gs C) (ha : a ≤ n) (hb : b ≤ H) (_ : -1000 ≤ a) (_ : -1000 ≤ b) (hn : n ≤ 1000) (hH : H ≤ 1000) :
    Calls Try.prog 54 #[.slice (some ⟨g, 0, none⟩) n c, .int .i64 a, .int .i64 b] w fun e w' => e = .returned (.int .i64 (pc C a b)) ∧ w = w' := by
  by_cases e1 : a < 1
  · have d1 : decide (a < 1) = true := by simpa using e1
    have e : pc C a b = 0 := if_pos (.inl e1)
    rw [e]
    clear h
    go_enter Try.func54, Try.ntmps54
    go_wp2
    go_ret
    exact ⟨rfl, rfl⟩
  · have d1 : decide (a < 1) = false := by simpa using e1
    by_cases e2 : b < 1
    · have d2 : decide (b < 1) = true := by simpa using e2
      have e : pc C a b = 0 := if_pos (.inr e2)
      rw [e]
      clear h
      go_enter Try.func54, Try.ntmps54
      go_wp2
      go_ret
      exact ⟨rfl, rfl⟩
    · have d2 : decide (b < 1) = false := by simpa using e2
      obtain ⟨x, hx⟩ : ∃ x : Nat, a - 1 = (x : Int) := ⟨(a - 1).toNat, by omega⟩
      obtain ⟨y, hy⟩ : ∃ y : Nat, b - 1 = (y : Int) := ⟨(b - 1).toNat, by omega⟩
      have e : pc C a b = C x y := by
        unfold pc
        rw [if_neg (by omega)]
        congr 1 <;> omega
      rw [e]
      have w1 : IntKind.i64.wrap (a - 1) = (x : Int) := by rw [wrapI (by omega) (by omega)]; exact hx
      have w2 : IntKind.i64.wrap (b - 1) = (y : Int) := by rw [wrapI (by omega) (by omega)]; exact hy
      have w3 : wrap64 (a - 1) = (x : Int) := by unfold wrap64; omega
      have w4 : wrap64 (b - 1) = (y : Int) := by unfold wrap64; omega
      have s0 := h.sp x (by omega)
      have s1 := h.row x y (by omega) (by omega)
      have hxn : (x : Int) < (n : Int) := by omega
      have hyn : (y : Int) < (H : Int) := by omega
      have HXX := Lib.hid hx
      have HYY := Lib.hid hy
      clear h e
      go_enter Try.func54, Try.ntmps54
      go_wp2
      go_ret
      exact ⟨rfl, rfl⟩
def asV (s : Sh) (a b : Int) (t : Bool) : Int := if (if t = true then isT s a b else isS s a b) = true then s.v else -1
set_option maxHeartbeats 1000000 in
theorem as_any (a b : Int) (s : Sh) (t : Bool) (w : World) : Calls Try.prog 49 #[.int .i64 a, .int .i64 b, shV s, .bool t] w fun e w' => e = .returned (.int .i64 (asV s a b t)) ∧ Below w.heap.size w w' := by
  obtain ⟨sw, sh, sv, st⟩ := s
  have hb := below_new w (.cells #[.int .i64 sw, .int .i64 sh, .int .i64 sv, .bool st] 65)
  obtain ⟨av, hav⟩ : ∃ av, av = asV ⟨sw, sh, sv, st⟩ a b t := ⟨_, rfl⟩
  rw [← hav]
  unfold shV
  cases t with
  | true =>
    cases st with
    | false =>
      have HE : Hid (av = -1) := Lib.hid (by rw [hav]; unfold asV isT; simp)
      clear hav
      go_enter Try.func49, Try.ntmps49
      go_wp2
      go_ret
      exact ⟨by rw [HE.out]; rfl, hb⟩
    | true =>
      by_cases e1 : a = sh
      · have d1 : (a == sh) = true := by simpa using e1
        by_cases e2 : b = sw
        · have d2 : (b == sw) = true := by simpa using e2
          have HE : Hid (av = sv) := Lib.hid (by rw [hav]; unfold asV isT; simp [e1, e2])
          clear hav e1 e2
          go_enter Try.func49, Try.ntmps49
          go_wp2
          go_ret
          exact ⟨by rw [HE.out]; rfl, hb⟩
        · have d2 : (b == sw) = false := by simpa using e2
          have HE : Hid (av = -1) := Lib.hid (by rw [hav]; unfold asV isT; simp [e2])
          clear hav e1 e2
          go_enter Try.func49, Try.ntmps49
          go_wp2
          go_ret
          exact ⟨by rw [HE.out]; rfl, hb⟩
      · have d1 : (a == sh) = false := by simpa using e1
        have HE : Hid (av = -1) := Lib.hid (by rw [hav]; unfold asV isT; simp [e1])
        clear hav e1
        go_enter Try.func49, Try.ntmps49
        go_wp2
        go_ret
        exact ⟨by rw [HE.out]; rfl, hb⟩
  | false =>
    by_cases e1 : a = sw
    · have d1 : (a == sw) = true := by simpa using e1
      by_cases e2 : b = sh
      · have d2 : (b == sh) = true := by simpa using e2
        have HE : Hid (av = sv) := Lib.hid (by rw [hav]; unfold asV isS; simp [e1, e2])
        clear hav e1 e2
        go_enter Try.func49, Try.ntmps49
        go_wp2
        go_ret
        exact ⟨by rw [HE.out]; rfl, hb⟩
      · have d2 : (b == sh) = false := by simpa using e2
        have HE : Hid (av = -1) := Lib.hid (by rw [hav]; unfold asV isS; simp [e2])
        clear hav e1 e2
        go_enter Try.func49, Try.ntmps49
        go_wp2
        go_ret
        exact ⟨by rw [HE.out]; rfl, hb⟩
    · have d1 : (a == sw) = false := by simpa using e1
      have HE : Hid (av = -1) := Lib.hid (by rw [hav]; unfold asV isS; simp [e1])
      clear hav e1
      go_enter Try.func49, Try.ntmps49
      go_wp2
      go_ret
      exact ⟨by rw [HE.out]; rfl, hb⟩
end Go.Proofs.Ytkfjlgjncaddpaa
