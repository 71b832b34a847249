import Derived.Test.YtaegkhdkhgemmaaNatW
import Derived.Test.YtaegkhdkhgemmaaPow
import Derived.Test.YtaegkhdkhgemmaaCmp
namespace Go.Proofs.Ytaegkhdkhgemmaa
open Go.RowKit Num

theorem below_at {B : Nat} {w w1 w2 : World} (h : Below B w w1) (hB : B ≤ w.heap.size) (k : Below w1.heap.size w1 w2) : Below B w w2 := h.trans (k.mono (Nat.le_trans hB h.size))
theorem below_new (w : World) (o : Obj) : Below w.heap.size w (w.alloc o) := (Below.refl _ _).alloc (Nat.le_refl _) o
theorem OwnL.mono {B B' : Nat} {w : World} {v : Value} {n : Nat} (h : OwnL B w v n) (hB : B' ≤ B) : OwnL B' w v n := by
  obtain ⟨h1, h2⟩ := h
  refine ⟨h1, ?_⟩
  rcases h2 with h2 | ⟨g, c, cur, e, hg, r⟩
  · exact .inl h2
  · exact .inr ⟨g, c, cur, e, by omega, r⟩
theorem OwnL.keep {B : Nat} {w w' : World} {v : Value} {n : Nat} (h : OwnL B w v n) (hb : Below w.heap.size w w') : OwnL B w' v n := by
  obtain ⟨h1, h2⟩ := h
  refine ⟨h1, ?_⟩
  rcases h2 with h2 | ⟨g, c, cur, e, hg, hh, r⟩
  · exact .inl h2
  · exact .inr ⟨g, c, cur, e, hg, (hb.block g (Array.getElem?_eq_some_iff.1 hh).1).trans hh, r⟩

def NatOk (w : World) (n : Nat) (e : Ending) (w' : World) : Prop := ∃ v, e = .returned (.tuple #[v, .int .i64 0]) ∧ OwnL w.heap.size w' v n ∧ Below w.heap.size w w'
def NatErr (w : World) (k : Int) (e : Ending) (w' : World) : Prop := e = .returned (.tuple #[.slice none 0 0, .int .i64 k]) ∧ Below w.heap.size w w'

/-- The word v as a number of words, once trimmed. -/
theorem row_one (w : World) (v : Nat) : Row .u64 24 (w.alloc (.cells #[.int .u64 (v : Int)] 24)) w.heap.size [v] := Row.of_heap (heap_alloc_new _ _)

set_option maxHeartbeats 400000 in
set_option maxRecDepth 100000 in
theorem of_any (v : Nat) (hv : v < B64) (w : World) : Calls Try.prog 33 #[.int .u64 (v : Int)] w (NatPost w v) := by
  have hr := row_one w v
  have hb := below_new w (.cells #[.int .u64 (v : Int)] 24)
  have hlow : Low B64 [v] := Low.cons hv (Low.nil _)
  have hval : val B64 [v] = v := by simp [val]
  have hn : Nums .u64 (w.alloc (.cells #[.int .u64 (v : Int)] 24)) (some ⟨w.heap.size, 0, none⟩) [v] := hr.nums0 1
  have hw : W64 (w.alloc (.cells #[.int .u64 (v : Int)] 24)) (.slice (some ⟨w.heap.size, 0, none⟩) (dig B64 v).length 1) v := by
    have := (own_of_trim b64_two hr hlow (Nat.le_refl w.heap.size)).is
    rw [hval] at this
    exact this
  have hl1 : (dig B64 v).length ≤ 1 := dig_len_le b64_two (by simpa using hv)
  have ht := fun w' (h : Nums .u64 w' (some ⟨w.heap.size, 0, none⟩) [v]) => trim_any (some ⟨w.heap.size, 0, none⟩) 1 1 [v] w' h hlow rfl (Nat.le_refl _) (by omega)
  rw [hval] at ht
  have HT := Lib.hid ht
  have HW := Lib.hid hw
  have HN := Lib.hid hn
  have hl2 : (dig B64 v).length ≤ 10000000000 := by omega
  clear ht hw hn hr hval hlow
  go_enter Try.func33, Try.ntmps33
  go_wp2_with (first
    | (go_at_call 78; refine (HT.out _ HN.out).mono ?_; rintro e w1 ⟨rfl, rfl⟩)
    | (go_at_call 79; refine (nat_any _ v _ HW.out hl2).mono ?_; rintro e w2 ⟨r, rfl, hr, hb2⟩))
  go_ret
  exact ⟨_, rfl, hr.mono (by simp), below_at hb (Nat.le_refl _) hb2⟩

/-- Binary digits of a product. -/
theorem nbits_mul {m n : Nat} (hm : m ≠ 0) (hn : n ≠ 0) : nbits m + nbits n ≤ nbits (m * n) + 1 := by
  have h1 := nbits_ge hm
  have h2 := nbits_ge hn
  have h3 := Nat.mul_le_mul h1 h2
  rw [← Nat.pow_add] at h3
  have h4 := nbits_lt (m * n)
  rcases Nat.lt_or_ge (nbits (m * n)) (nbits m - 1 + (nbits n - 1) + 1) with h | h
  · have := Nat.pow_le_pow_right (show 0 < 2 by omega) (show nbits (m * n) ≤ nbits m - 1 + (nbits n - 1) by omega)
    omega
  · have p1 : 0 < nbits m := by rw [nbits_pos hm]; omega
    have p2 : 0 < nbits n := by rw [nbits_pos hn]; omega
    omega
theorem len_of_bits {n k : Nat} (h : nbits n ≤ 64 * k) : (dig B64 n).length ≤ k := dig_len_le b64_two (by rw [← pow_b64]; exact lt_of_nbits h)

set_option maxHeartbeats 400000 in
theorem fit_ok (a : Value) (n : Nat) (w : World) (ha : W64 w a n) (hn : nbits n ≤ 8388608) : Calls Try.prog 81 #[a] w (NatOk w n) := by
  have hl := len_of_bits (n := n) (k := 131072) hn
  have hb := fun w' (h : W64 w' a n) => (show Calls Try.prog 91 #[a] w' fun e w'' => e = .returned (.int .i64 (nbits n : Nat)) ∧ w' = w'' from by
    obtain ⟨A, c, rfl, _, hA⟩ := h
    exact bits_any A c _ n w' hA rfl (by omega))
  have HB := Lib.hid hb
  have HA := Lib.hid ha
  have hl2 : (dig B64 n).length ≤ 10000000000 := by omega
  clear hb ha hl
  generalize nbits n = r at *
  go_enter Try.func81, Try.ntmps81
  go_wp2_with (first
    | (go_at_call 91; refine (HB.out _ HA.out).mono ?_; rintro e w1 ⟨rfl, rfl⟩)
    | (go_at_call 79; refine (nat_any _ n _ HA.out hl2).mono ?_; rintro e w2 ⟨r, rfl, hr, hb2⟩))
  go_ret2
  exact ⟨_, rfl, hr, hb2⟩

set_option maxHeartbeats 400000 in
theorem fit_err (a : Value) (n : Nat) (w : World) (ha : W64 w a n) (hl : (dig B64 n).length ≤ 1000000000) (hn : 8388608 < nbits n) : Calls Try.prog 81 #[a] w (NatErr w 3) := by
  have hb := fun w' (h : W64 w' a n) => (show Calls Try.prog 91 #[a] w' fun e w'' => e = .returned (.int .i64 (nbits n : Nat)) ∧ w' = w'' from by
    obtain ⟨A, c, rfl, _, hA⟩ := h
    exact bits_any A c _ n w' hA rfl (by omega))
  have HB := Lib.hid hb
  have HA := Lib.hid ha
  clear hb ha hl
  generalize nbits n = r at *
  go_enter Try.func81, Try.ntmps81
  go_wp2_with (go_at_call 91; refine (HB.out _ HA.out).mono ?_; rintro e w1 ⟨rfl, rfl⟩)
  go_ret2
  exact ⟨rfl, Below.refl _ _⟩
end Go.Proofs.Ytaegkhdkhgemmaa
