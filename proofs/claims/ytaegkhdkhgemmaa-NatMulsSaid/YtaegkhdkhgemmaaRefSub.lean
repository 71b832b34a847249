import Derived.Test.YtaegkhdkhgemmaaRefAdd
namespace Go.Proofs.Ytaegkhdkhgemmaa
open Go.RowKit Num

structure SubOut (xs ys : List Nat) (k : Nat) (os : List Nat) (c : Nat) : Prop where
  len : os.length = k
  low : Low B32 os
  le : c ≤ 1
  eq : val B32 os + val B32 (ys.take k) = val B32 (xs.take k) + B32 ^ k * c
theorem SubOut.start (xs ys : List Nat) : SubOut xs ys 0 [] 0 := ⟨rfl, Low.nil _, by omega, by simp [val]⟩
theorem SubOut.step {xs ys os : List Nat} {k c lo hi : Nat} (h : SubOut xs ys k os c) (hs : lo + ys.getD k 0 + c = xs.getD k 0 + B32 * hi) (hlo : lo < B32) (hhi : hi ≤ 1) :
    SubOut xs ys (k + 1) (os ++ [lo]) hi := by
  refine ⟨by simp [h.len], h.low.append (Low.cons hlo (Low.nil _)), hhi, ?_⟩
  rw [val_snoc, val_take_getD, val_take_getD, h.len]
  have e := h.eq
  have : B32 ^ k * (lo + ys.getD k 0 + c) = B32 ^ k * (xs.getD k 0 + B32 * hi) := by rw [hs]
  rw [Nat.pow_succ]
  grind
theorem SubOut.fin {xs ys os : List Nat} {k c : Nat} (h : SubOut xs ys k os c) (hx : xs.length ≤ k) (hy : ys.length ≤ k) (hle : val B32 ys ≤ val B32 xs) (hylow : Low B32 ys) : val B32 os = val B32 xs - val B32 ys := by
  have e := h.eq
  rw [List.take_of_length_le hx, List.take_of_length_le hy] at e
  have h1 := val_lt B32 os h.low
  rw [h.len] at h1
  have h5 : c = 0 := by
    rcases Nat.eq_zero_or_pos c with h0 | h0
    · exact h0
    · have : B32 ^ k * 1 ≤ B32 ^ k * c := Nat.mul_le_mul_left _ h0
      have h2 := val_lt B32 ys hylow
      have h3 : B32 ^ ys.length ≤ B32 ^ k := Nat.pow_le_pow_right b32_pos hy
      omega
  subst h5
  simp at e
  omega

theorem sub3_ex (x y c : Nat) (hx : x < B32) (hy : y < B32) (hc : c ≤ 1) : ∃ s1 s2 s lo q hi : Nat,
    IntKind.u64.wrap (4294967296 + (x : Int)) = (s1 : Int) ∧ IntKind.u64.wrap ((s1 : Int) - (y : Int)) = (s2 : Int) ∧ IntKind.u64.wrap ((s2 : Int) - (c : Int)) = (s : Int) ∧ (s : Int) % 4294967296 = (lo : Int) ∧ (s : Int) / 4294967296 = (q : Int) ∧
    IntKind.u32.wrap (lo : Int) = (lo : Int) ∧ (lo : Int) % 4294967296 = (lo : Int) ∧ IntKind.u64.wrap (q : Int) = (q : Int) ∧ IntKind.u64.wrap (1 - (q : Int)) = (hi : Int) ∧ lo + y + c = x + B32 * hi ∧ lo < B32 ∧ hi ≤ 1 := by
  unfold B32 at *
  refine ⟨4294967296 + x, 4294967296 + x - y, 4294967296 + x - y - c, (4294967296 + x - y - c) % 4294967296, (4294967296 + x - y - c) / 4294967296, 1 - (4294967296 + x - y - c) / 4294967296, ?_, ?_, ?_, by omega, by omega, ?_, by omega, ?_, ?_, by omega, by omega, by omega⟩
  · rw [IntKind.wrap_u64]; omega
  · rw [IntKind.wrap_u64]; omega
  · rw [IntKind.wrap_u64]; omega
  · rw [IntKind.wrap_u32']; omega
  · rw [IntKind.wrap_u64]; omega
  · rw [IntKind.wrap_u64]; omega

set_option maxHeartbeats 2000000 in
set_option maxRecDepth 100000 in
theorem refSub_any (A A' : Option Addr) (c c' L L' : Nat) (xs ys : List Nat) (w : World) (hA : Nums .u32 w A xs) (hA' : Nums .u32 w A' ys) (hx : Low B32 xs) (hy : Low B32 ys) (hL : L = xs.length) (hL' : L' = ys.length)
    (hl : L ≤ 1000000) (hle' : L' ≤ L) (hle : val B32 ys ≤ val B32 xs) : Calls Try.prog 44 #[.slice A L c, .slice A' L' c'] w (LsPost w (dig B32 (val B32 xs - val B32 ys))) := by
  obtain ⟨i0, hi, hz0, hz1, hz2⟩ := info_parts info56
  have ho := own_empty w 56
  have hbA := below_new w (.cells #[] 56)
  have HO := Lib.hid ho
  have HL := Lib.hid hL
  have HL' := Lib.hid hL'
  have HLE := Lib.hid hle
  have HY := Lib.hid hy
  clear ho hL hL' hle
  obtain ⟨ds, hds⟩ : ∃ ds, dig B32 (val B32 xs - val B32 ys) = ds := ⟨_, rfl⟩
  rw [hds]
  have HDS := Lib.hid hds
  clear hds
  go_enter Try.func44, Try.ntmps44
  go_wp2
  go_loopw [5, 6, 7] (fun out q t wr => ∃ (k cy : Nat) (os : List Nat), k ≤ L ∧ t = .int .i64 (k : Int) ∧ q = .int .u64 (cy : Int) ∧ SubOut xs ys k os cy ∧ wr.ownsRow w.heap.size 56 1 out k (ints .u32 os) ∧ Below w.heap.size w wr) (fun _ _ t _ => L - (intOf t).toNat)
  case atStart => exact ⟨0, 0, [], Nat.zero_le _, rfl, rfl, SubOut.start xs ys, HO.out, hbA⟩
  case round =>
    clear hbA HO
    obtain ⟨k, cy, os, hk, rfl, rfl, hst, hown, hbl⟩ := hrel
    by_cases hlt : k < L
    · have ha := at_any A c L k xs wr (hA.keep hbl) hx HL.out
      have hb := at_any A' c' L' k ys wr (hA'.keep hbl) hy HL'.out
      obtain ⟨s1, s2, s, lo, qq, hi', w1, w2, w3, w4, w5, w6, w7, w8, w9, hs, hlo, hhi⟩ := sub3_ex _ _ cy (getD_low b32_pos hx k) (getD_low b32_pos hy k) hst.le
      have hst' := hst.step hs hlo hhi
      generalize xs.getD k 0 = x at *
      generalize ys.getD k 0 = y at *
      have HA := Lib.hid ha
      have HB := Lib.hid hb
      have HST := Lib.hid hst'
      have HS := Lib.hid hs
      clear ha hb hst' hA hA' hx hy hs hlo hst
      go_wp2_with (fail)
      refine HA.out.mono ?_
      rintro e wq ⟨rfl, rfl⟩
      go_wp2_with (fail)
      refine HB.out.mono ?_
      rintro e wq ⟨rfl, rfl⟩
      go_wp2_with (at_builtin
                   refine wpList_append_own _ rfl _ _ 35 rfl w.heap.size 56 i0 (.int .u32 0) 1 4 Try.underlying35 hi hz0 hz1 hz2 rfl (by decide) _ k _ rfl (hown.alloc _) ⟨wr.heap.size, 0, none⟩ 1 1 [.int .u32 (lo : Int)] rfl rfl (cell_one_new _ _ _) (ints_one .u32 [lo]) ?c4 ?c5 (Nat.le_trans hbl.size (by simp)) ?_)
      case c4 => unfold maxLen; omega
      case c5 => omega
      intro v' wv hown1 hgr1 _
      have hb1 : Below w.heap.size w wv := (hbl.alloc hbl.size _).grown hgr1 (Nat.le_trans hbl.size (by simp)) (fun g' hg' => by
        rcases hown.2 with ⟨rfl, _⟩ | ⟨g2, cap, cur, rfl, hg2, _⟩
        · simp [Value.ownBlock] at hg'
        · simp [Value.ownBlock] at hg'; omega)
      have H1 := Lib.hid hown1
      have H0 := Lib.hid hown
      clear hown1 hown
      go_wp2
      go_roundw
      case rel => exact ⟨k + 1, hi', os ++ [lo], by omega, by go_num, rfl, HST.out, by have := H1.out; simpa [ints] using this, hb1⟩
      case measure => simp [intOf]; omega
    · have hkL : k = L := by omega
      subst hkL
      have hst' := hst.fin (by have := HL.out; omega) (by have := HL'.out; omega) HLE.out HY.out
      have hlen2 : os.length = k := hst.len
      have hls : OwnLs w.heap.size wr u5 os := by
        unfold OwnLs
        rw [hlen2]
        exact hown
      have hlim := hls.limbs (by rw [hlen2]; omega)
      have htr := refTrim_l u5 os wr hlim hst.low (by rw [hlen2]; omega)
      rw [hst', HDS.out] at htr
      have HT := Lib.hid htr
      clear htr hlim hls hown hst' hst hA hA' hx hy hlt hlen2 hk
      go_wp2_with (go_at_call 80; refine HT.out.mono ?_; rintro e w9 ⟨v9, rfl, hv9, hb9⟩)
      go_ret
      exact ⟨_, rfl, hv9.mono hbl.size, below_at hbl (Nat.le_refl _) hb9⟩

theorem refSub_call (a b : Value) (m n : Nat) (w : World) (ha : N32 w a m) (hb : N32 w b n) (hm : (dig B32 m).length ≤ 1000000) (hle : n ≤ m) : Calls Try.prog 44 #[a, b] w (LsPost w (dig B32 (m - n))) := by
  obtain ⟨A, c, rfl, _, hA⟩ := ha
  obtain ⟨A', c', rfl, _, hA'⟩ := hb
  have := refSub_any A A' c c' _ _ _ _ w hA hA' (low_dig b32_two m) (low_dig b32_two n) rfl rfl hm (dig_len_le b32_two (Nat.lt_of_le_of_lt hle (dig_len_lt b32_two))) (by rw [val_dig b32_two, val_dig b32_two]; exact hle)
  rw [val_dig b32_two, val_dig b32_two] at this
  exact this
end Go.Proofs.Ytaegkhdkhgemmaa
