import Derived.Test.YtaegkhdkhgemmaaCopy
namespace Go.Proofs.Ytaegkhdkhgemmaa
open Go.RowKit Num

theorem nums_ne {k : IntKind} {w : World} {A : Option Addr} {xs : List Nat} {B : Nat} (h : Nums k w A xs) (hB : w.heap.size ≤ B) (hp : 0 < xs.length) : ∀ a, A = some a → a.block ≠ B := by
  obtain ⟨g, off, e, hg, _⟩ := h hp
  intro a ha
  rw [e] at ha
  injection ha with ha
  subst ha
  show g ≠ B
  omega

theorem val_lay0 (b n : Nat) (xs : List Nat) : val b (lay (List.replicate n 0) 0 xs) = val b xs := by
  simp only [lay, List.take_zero, List.nil_append, List.drop_replicate, Nat.zero_add]
  rw [val_append, val_replicate]; simp
theorem two_pow_lt {b L x y : Nat} (hb : 2 ≤ b) (hx : x < b ^ L) (hy : y < b ^ L) : x + y < b ^ (L + 1) := by
  have : 2 * b ^ L ≤ b * b ^ L := Nat.mul_le_mul_right _ hb
  rw [Nat.pow_succ, Nat.mul_comm]
  omega
theorem seg0 {zs : List Nat} {n : Nat} (h : zs.length = n) : seg zs 0 n = zs := by subst h; exact seg_all zs
theorem sum_fin {b L c : Nat} {xs ys zs' : List Nat} (hb : 2 ≤ b) (hx : Low b xs) (hy : Low b ys) (hL : xs.length = L) (hL' : ys.length ≤ L)
    (h : AddSt b (lay (List.replicate (L + 1) 0) 0 xs) ys 0 (L + 1) zs' c) : val b zs' = val b xs + val b ys := by
  have hlen : (lay (List.replicate (L + 1) 0) 0 xs).length = L + 1 := by rw [lay_len (by simp; omega)]; simp
  have e := h.eq
  have l' : zs'.length = L + 1 := h.len.trans hlen
  rw [seg0 l', seg0 hlen,
    val_lay0, List.take_of_length_le (by omega)] at e
  have h1 := val_lt b xs hx
  have h2 := val_lt b ys hy
  have h3 : b ^ ys.length ≤ b ^ L := Nat.pow_le_pow_right (by omega) hL'
  rw [hL] at h1
  have h4 := two_pow_lt hb h1 (Nat.lt_of_lt_of_le h2 h3)
  have h5 : c = 0 := by
    rcases Nat.eq_zero_or_pos c with h0 | h0
    · exact h0
    · have : b ^ (L + 1) * 1 ≤ b ^ (L + 1) * c := Nat.mul_le_mul_left _ h0
      omega
  subst h5
  simpa using e

def SumPost (w : World) (n : Nat) (e : Ending) (w' : World) : Prop := ∃ v, e = .returned v ∧ OwnW w.heap.size w' v n ∧ Below w.heap.size w w'

set_option maxHeartbeats 1000000 in
set_option maxRecDepth 100000 in
theorem sum_ge (A A' : Option Addr) (c c' L L' : Nat) (xs ys : List Nat) (w : World) (hA : Nums .u64 w A xs) (hA' : Nums .u64 w A' ys) (hx : Low B64 xs) (hy : Low B64 ys)
    (hL : L = xs.length) (hL' : L' = ys.length) (hle : L' ≤ L) (hbig : L ≤ 100000000000) :
    Calls Try.prog 82 #[.slice A L c, .slice A' L' c'] w (SumPost w (val B64 xs + val B64 ys)) := by
  have hmk := make64 (L + 1) (by omega)
  push_cast at hmk
  have hr0 := Row.made w .u64 (L + 1) 24
  have hbA : Below w.heap.size w (w.alloc (.cells (madeCells #[.int .u64 0] (L + 1)) 24)) := (Below.refl _ _).alloc (Nat.le_refl _) _
  have hA0 := hA.keep hbA
  have hlow0 : Low B64 (lay (List.replicate (L + 1) 0) 0 xs) := lay_low (Low.replicate b64_pos _) hx
  have hlen0 : (lay (List.replicate (L + 1) 0) 0 xs).length = L + 1 := by rw [lay_len (by simp; omega)]; simp
  have hne : 0 < ys.length → ∀ a, A' = some a → a.block ≠ w.heap.size := nums_ne hA' (Nat.le_refl _)
  have hlen1 : 0 + (L + 1) ≤ (lay (List.replicate (L + 1) 0) 0 xs).length := by rw [hlen0]; omega
  have HL := Lib.hid hL
  have HL' := Lib.hid hL'
  have HN := Lib.hid hlen0
  have HNE := Lib.hid hne
  have HR0 := Lib.hid hr0
  clear hL hL' hlen0 hne hr0
  go_enter Try.func82, Try.ntmps82
  go_wp2_with (first
    | (refine wpList_copy_row rfl (.tmp 17) (.tmp 18) rfl _ _ _ _ _ _ rfl rfl _ 0 _ _ HR0.out hA0 HL.out (by omega) (fun _ => rfl) (by simp) ?_
       intro w1 hr1 hg1
       have hb1 : Below w.heap.size w w1 := hbA.grown hg1 hbA.size (by simp))
    | (go_at_call 106
       refine (addTo_any w.heap.size 0 (L + 1) (L + 1) c' L' _ ys A' _ (by assumption) hlow0 hlen1 (hA'.keep (by assumption)) hy HNE.out HL'.out (by omega) (by omega)).mono ?_
       rintro e w2 ⟨zs', cy, rfl, hst, hr2, hg2⟩
       have hb2 : Below w.heap.size w w2 := hb1.grown hg2 hb1.size (by simp)
       have hl2 : zs'.length = L + 1 := hst.len.trans HN.out
       have hn2 : Nums .u64 w2 (some ⟨w.heap.size, 0, none⟩) zs' := by have := hr2.nums0 zs'.length; rwa [List.take_length] at this
       have HL2 := Lib.hid hl2
       clear hl2)
    | (go_at_call 78
       refine (trim_any _ (L + 1) (L + 1) zs' _ (by assumption) hst.low HL2.out.symm (Nat.le_refl _) (by omega)).mono ?_
       rintro e w3 ⟨rfl, rfl⟩))
  go_ret
  have hv := sum_fin b64_two hx hy HL.out.symm (by rw [← HL'.out]; exact hle) hst
  rw [← hv]
  refine ⟨_, rfl, ?_, hb2⟩
  have := own_of_trim b64_two hr2 hst.low (Nat.le_refl w.heap.size)
  rw [HL2.out] at this
  exact this
set_option maxHeartbeats 1000000 in
set_option maxRecDepth 100000 in
theorem sum_lt (A A' : Option Addr) (c c' L L' : Nat) (xs ys : List Nat) (w : World) (hA : Nums .u64 w A xs) (hA' : Nums .u64 w A' ys) (hx : Low B64 xs) (hy : Low B64 ys)
    (hL : L = xs.length) (hL' : L' = ys.length) (hle : L' < L) (hbig : L ≤ 100000000000) :
    Calls Try.prog 82 #[.slice A' L' c', .slice A L c] w (SumPost w (val B64 xs + val B64 ys)) := by
  have hmk := make64 (L + 1) (by omega)
  push_cast at hmk
  have hr0 := Row.made w .u64 (L + 1) 24
  have hbA : Below w.heap.size w (w.alloc (.cells (madeCells #[.int .u64 0] (L + 1)) 24)) := (Below.refl _ _).alloc (Nat.le_refl _) _
  have hA0 := hA.keep hbA
  have hlow0 : Low B64 (lay (List.replicate (L + 1) 0) 0 xs) := lay_low (Low.replicate b64_pos _) hx
  have hlen0 : (lay (List.replicate (L + 1) 0) 0 xs).length = L + 1 := by rw [lay_len (by simp; omega)]; simp
  have hne : 0 < ys.length → ∀ a, A' = some a → a.block ≠ w.heap.size := nums_ne hA' (Nat.le_refl _)
  have hlen1 : 0 + (L + 1) ≤ (lay (List.replicate (L + 1) 0) 0 xs).length := by rw [hlen0]; omega
  have HL := Lib.hid hL
  have HL' := Lib.hid hL'
  have HN := Lib.hid hlen0
  have HNE := Lib.hid hne
  have HR0 := Lib.hid hr0
  clear hL hL' hlen0 hne hr0
  go_enter Try.func82, Try.ntmps82
  go_wp2_with (first
    | (refine wpList_copy_row rfl (.tmp 17) (.tmp 18) rfl _ _ _ _ _ _ rfl rfl _ 0 _ _ HR0.out hA0 HL.out (by omega) (fun _ => rfl) (by simp) ?_
       intro w1 hr1 hg1
       have hb1 : Below w.heap.size w w1 := hbA.grown hg1 hbA.size (by simp))
    | (go_at_call 106
       refine (addTo_any w.heap.size 0 (L + 1) (L + 1) c' L' _ ys A' _ (by assumption) hlow0 hlen1 (hA'.keep (by assumption)) hy HNE.out HL'.out (by omega) (by omega)).mono ?_
       rintro e w2 ⟨zs', cy, rfl, hst, hr2, hg2⟩
       have hb2 : Below w.heap.size w w2 := hb1.grown hg2 hb1.size (by simp)
       have hl2 : zs'.length = L + 1 := hst.len.trans HN.out
       have hn2 : Nums .u64 w2 (some ⟨w.heap.size, 0, none⟩) zs' := by have := hr2.nums0 zs'.length; rwa [List.take_length] at this
       have HL2 := Lib.hid hl2
       clear hl2)
    | (go_at_call 78
       refine (trim_any _ (L + 1) (L + 1) zs' _ (by assumption) hst.low HL2.out.symm (Nat.le_refl _) (by omega)).mono ?_
       rintro e w3 ⟨rfl, rfl⟩))
  go_ret
  have hv := sum_fin b64_two hx hy HL.out.symm (by rw [← HL'.out]; exact Nat.le_of_lt hle) hst
  rw [← hv]
  refine ⟨_, rfl, ?_, hb2⟩
  have := own_of_trim b64_two hr2 hst.low (Nat.le_refl w.heap.size)
  rw [HL2.out] at this
  exact this

theorem dig_low64 (n : Nat) : Low B64 (dig B64 n) := low_dig b64_two n
/-- sum, of two numbers. -/
theorem sum_any (a b : Value) (m n : Nat) (w : World) (ha : W64 w a m) (hb : W64 w b n) (hm : (dig B64 m).length ≤ 100000000000) (hn : (dig B64 n).length ≤ 100000000000) :
    Calls Try.prog 82 #[a, b] w (SumPost w (m + n)) := by
  obtain ⟨A, c, rfl, _, hA⟩ := ha
  obtain ⟨A', c', rfl, _, hA'⟩ := hb
  have em := val_dig b64_two m
  have en := val_dig b64_two n
  rcases Nat.lt_or_ge (dig B64 m).length (dig B64 n).length with h | h
  · have := sum_lt A' A c' c _ _ _ _ w hA' hA (dig_low64 n) (dig_low64 m) rfl rfl h hn
    rw [em, en, Nat.add_comm] at this
    exact this
  · have := sum_ge A A' c c' _ _ _ _ w hA hA' (dig_low64 m) (dig_low64 n) rfl rfl h hm
    rw [em, en] at this
    exact this
end Go.Proofs.Ytaegkhdkhgemmaa
