import Derived.Test.YtaegkhdkhgemmaaRefC
namespace Go.Proofs.Ytaegkhdkhgemmaa
open Go.RowKit Num

theorem val_take_getD (b : Nat) (xs : List Nat) (k : Nat) : val b (xs.take (k + 1)) = val b (xs.take k) + b ^ k * xs.getD k 0 := by
  by_cases hk : k < xs.length
  · rw [val_take_succ b xs k hk]
    simp [List.getD_eq_getElem?_getD, List.getElem?_eq_getElem hk]
  · rw [List.take_of_length_le (by omega), List.take_of_length_le (by omega)]
    simp [List.getD_eq_getElem?_getD, List.getElem?_eq_none (show xs.length ≤ k by omega)]
theorem getD_low {b : Nat} (hb : 0 < b) {xs : List Nat} (h : Low b xs) (k : Nat) : xs.getD k 0 < b := by
  rw [List.getD_eq_getElem?_getD]
  cases e : xs[k]? with
  | none => simpa using hb
  | some v => exact h v (List.mem_of_getElem? e)

/-- Digits that are appended, one after the other: the sum of the first k of both, but for the carry. -/
structure AddOut (xs ys : List Nat) (k : Nat) (os : List Nat) (c : Nat) : Prop where
  len : os.length = k
  low : Low B32 os
  le : c ≤ 1
  eq : val B32 os + B32 ^ k * c = val B32 (xs.take k) + val B32 (ys.take k)
theorem AddOut.start (xs ys : List Nat) : AddOut xs ys 0 [] 0 := ⟨rfl, Low.nil _, by omega, by simp [val]⟩
theorem AddOut.step {xs ys os : List Nat} {k c lo hi : Nat} (h : AddOut xs ys k os c) (hs : lo + B32 * hi = xs.getD k 0 + ys.getD k 0 + c) (hlo : lo < B32) (hhi : hi ≤ 1) :
    AddOut xs ys (k + 1) (os ++ [lo]) hi := by
  refine ⟨by simp [h.len], h.low.append (Low.cons hlo (Low.nil _)), hhi, ?_⟩
  rw [val_snoc, val_take_getD, val_take_getD, h.len]
  have e := h.eq
  have : B32 ^ k * (lo + B32 * hi) = B32 ^ k * (xs.getD k 0 + ys.getD k 0 + c) := by rw [hs]
  rw [Nat.pow_succ]
  grind
theorem AddOut.fin {xs ys os : List Nat} {k c : Nat} (h : AddOut xs ys k os c) (hx : xs.length ≤ k) (hy : ys.length ≤ k) : val B32 (os ++ [c]) = val B32 xs + val B32 ys := by
  have e := h.eq
  rw [List.take_of_length_le hx, List.take_of_length_le hy] at e
  rw [val_snoc, h.len]
  exact e

/-- A sum of three words that stay below 2^64, and its two halves: as the walk shows them. -/
theorem add3_ex (x y c : Nat) (hx : x < B32) (hy : y < B32) (hc : c ≤ 1) : ∃ s1 s lo hi : Nat,
    IntKind.u64.wrap ((x : Int) + (y : Int)) = (s1 : Int) ∧ IntKind.u64.wrap ((s1 : Int) + (c : Int)) = (s : Int) ∧ (s : Int) % 4294967296 = (lo : Int) ∧ (s : Int) / 4294967296 = (hi : Int) ∧
    IntKind.u32.wrap (lo : Int) = (lo : Int) ∧ (lo : Int) % 4294967296 = (lo : Int) ∧ IntKind.u64.wrap (hi : Int) = (hi : Int) ∧ lo + B32 * hi = x + y + c ∧ lo < B32 ∧ hi ≤ 1 := by
  unfold B32 at *
  refine ⟨x + y, x + y + c, (x + y + c) % 4294967296, (x + y + c) / 4294967296, ?_, ?_, by omega, by omega, ?_, by omega, ?_, by omega, by omega, by omega⟩
  · rw [IntKind.wrap_u64]; omega
  · rw [IntKind.wrap_u64]; omega
  · rw [IntKind.wrap_u32']; omega
  · rw [IntKind.wrap_u64]; omega

theorem refTrim_l (a : Value) (xs : List Nat) (w : World) (h : Limbs w a xs) (hlow : Low B32 xs) (hl : xs.length ≤ 1000000000) : Calls Try.prog 80 #[a] w (LsPost w (dig B32 (val B32 xs))) := by
  obtain ⟨A, c, rfl, _, _, hA⟩ := h
  exact refTrim_any A c _ xs w hA hlow rfl hl
theorem OwnLs.mono {B B' : Nat} {w : World} {v : Value} {ys : List Nat} (h : OwnLs B w v ys) (hB : B' ≤ B) : OwnLs B' w v ys := by
  obtain ⟨h1, h2⟩ := h
  refine ⟨h1, ?_⟩
  rcases h2 with h2 | ⟨g, c, cur, e, hg, r⟩
  · exact .inl h2
  · exact .inr ⟨g, c, cur, e, by omega, r⟩

set_option maxHeartbeats 2000000 in
set_option maxRecDepth 100000 in
theorem refAdd_any (A A' : Option Addr) (c c' L L' : Nat) (xs ys : List Nat) (w : World) (hA : Nums .u32 w A xs) (hA' : Nums .u32 w A' ys) (hx : Low B32 xs) (hy : Low B32 ys) (hL : L = xs.length) (hL' : L' = ys.length)
    (hl : L ≤ 1000000) (hl' : L' ≤ 1000000) : Calls Try.prog 43 #[.slice A L c, .slice A' L' c'] w (LsPost w (dig B32 (val B32 xs + val B32 ys))) := by
  obtain ⟨i0, hi, hz0, hz1, hz2⟩ := info_parts info56
  have ho := own_empty w 56
  have hbA := below_new w (.cells #[] 56)
  have HO := Lib.hid ho
  have HL := Lib.hid hL
  have HL' := Lib.hid hL'
  clear ho hL hL'
  obtain ⟨ds, hds⟩ : ∃ ds, dig B32 (val B32 xs + val B32 ys) = ds := ⟨_, rfl⟩
  rw [hds]
  have HDS := Lib.hid hds
  clear hds
  go_enter Try.func43, Try.ntmps43
  go_wp2
  go_loopw [5, 6, 7] (fun out q t wr => ∃ (k cy : Nat) (os : List Nat), (k ≤ L ∨ k ≤ L') ∧ t = .int .i64 (k : Int) ∧ q = .int .u64 (cy : Int) ∧ AddOut xs ys k os cy ∧ wr.ownsRow w.heap.size 56 1 out k (ints .u32 os) ∧ Below w.heap.size w wr) (fun _ _ t _ => L + L' - (intOf t).toNat)
  case atStart => exact ⟨0, 0, [], .inl (Nat.zero_le _), rfl, rfl, AddOut.start xs ys, HO.out, hbA⟩
  case round =>
    clear hbA HO
    obtain ⟨k, cy, os, hk, rfl, rfl, hst, hown, hbl⟩ := hrel
    have hk1 : k ≤ 1000000 := by omega
    by_cases hlt : k < L ∨ k < L'
    · have ha := at_any A c L k xs wr (hA.keep hbl) hx HL.out
      have hb := at_any A' c' L' k ys wr (hA'.keep hbl) hy HL'.out
      obtain ⟨s1, s, lo, hi', w1, w2, w3, w4, w5, w6, w7, hs, hlo, hhi⟩ := add3_ex _ _ cy (getD_low b32_pos hx k) (getD_low b32_pos hy k) hst.le
      have hst' := hst.step hs hlo hhi
      generalize xs.getD k 0 = x at *
      generalize ys.getD k 0 = y at *
      have HA := Lib.hid ha
      have HB := Lib.hid hb
      have HST := Lib.hid hst'
      have HS := Lib.hid hs
      clear ha hb hst' hA hA' hx hy hs hlo hst
      by_cases h1 : k < L
      all_goals
        go_wp2_with (fail)
        refine HA.out.mono ?_
        rintro e w9 ⟨rfl, rfl⟩
        go_wp2_with (fail)
        refine HB.out.mono ?_
        rintro e w9 ⟨rfl, rfl⟩
        go_wp2_with (at_builtin
                     refine wpList_append_own _ rfl _ _ 35 rfl w.heap.size 56 i0 (.int .u32 0) 1 4 Try.underlying35 hi hz0 hz1 hz2 rfl (by decide) _ k _ rfl (hown.alloc _) ⟨wr.heap.size, 0, none⟩ 1 1 [.int .u32 (lo : Int)] rfl rfl (cell_one_new _ _ _) (ints_one .u32 [lo]) ?c4 ?c5 (Nat.le_trans hbl.size (by simp)) ?_)
        case c4 => unfold maxLen; omega
        case c5 => omega
        intro v' w8 hown1 hgr1 _
        have hb1 : Below w.heap.size w w8 := (hbl.alloc hbl.size _).grown hgr1 (Nat.le_trans hbl.size (by simp)) (fun g' hg' => by
          rcases hown.2 with ⟨rfl, _⟩ | ⟨g2, cap, cur, rfl, hg2, _⟩
          · simp [Value.ownBlock] at hg'
          · simp [Value.ownBlock] at hg'; omega)
        have H1 := Lib.hid hown1
        have H0 := Lib.hid hown
        clear hown1 hown
        go_wp2
        go_roundw
        case rel => exact ⟨k + 1, hi', os ++ [lo], by omega, by go_num, rfl, HST.out, by have := H1.out; simpa [ints] using this, hb1⟩
        case measure => simp [intOf]; omega
    · have hst' := hst.fin (by have := HL.out; omega) (by have := HL'.out; omega)
      have hlow2 : Low B32 (os ++ [cy]) := hst.low.append (Low.cons (by have := hst.le; unfold B32; omega) (Low.nil _))
      have hlen2 : (os ++ [cy]).length = k + 1 := by simp [hst.len]
      have hcy := hst.le
      have w1 : IntKind.u32.wrap (cy : Int) = (cy : Int) := by rw [IntKind.wrap_u32']; omega
      have w2 : (cy : Int) % 4294967296 = (cy : Int) := by omega
      have HV := Lib.hid hst'
      have HLO := Lib.hid hlow2
      have HLE := Lib.hid hlen2
      have hA1 : ¬ k < L := by omega
      have hA2 : ¬ k < L' := by omega
      clear hst' hst hA hA' hx hy hlt hlow2 hlen2 hk
      go_wp2_with (at_builtin
                   refine wpList_append_own _ rfl _ _ 35 rfl w.heap.size 56 i0 (.int .u32 0) 1 4 Try.underlying35 hi hz0 hz1 hz2 rfl (by decide) _ k _ rfl (hown.alloc _) ⟨wr.heap.size, 0, none⟩ 1 1 [.int .u32 (cy : Int)] rfl rfl (cell_one_new _ _ _) (ints_one .u32 [cy]) ?c4 ?c5 (Nat.le_trans hbl.size (by simp)) ?_)
      case c4 => unfold maxLen; omega
      case c5 => omega
      intro v' w8 hown1 hgr1 _
      have hb1 : Below w.heap.size w w8 := (hbl.alloc hbl.size _).grown hgr1 (Nat.le_trans hbl.size (by simp)) (fun g' hg' => by
        rcases hown.2 with ⟨rfl, _⟩ | ⟨g2, cap, cur, rfl, hg2, _⟩
        · simp [Value.ownBlock] at hg'
        · simp [Value.ownBlock] at hg'; omega)
      have hls : OwnLs w.heap.size w8 v' (os ++ [cy]) := by
        unfold OwnLs
        rw [HLE.out]
        simpa [ints] using hown1
      have hlim := hls.limbs (by rw [HLE.out]; omega)
      have htr := refTrim_l v' (os ++ [cy]) w8 hlim HLO.out (by rw [HLE.out]; omega)
      rw [HV.out, HDS.out] at htr
      have HT := Lib.hid htr
      clear htr hlim hls hown1 hown
      go_wp2_with (go_at_call 80; refine HT.out.mono ?_; rintro e w9 ⟨v9, rfl, hv9, hb9⟩)
      go_ret
      exact ⟨_, rfl, hv9.mono hb1.size, below_at hb1 (Nat.le_refl _) hb9⟩

theorem refAdd_call (a b : Value) (m n : Nat) (w : World) (ha : N32 w a m) (hb : N32 w b n) (hm : (dig B32 m).length ≤ 1000000) (hn : (dig B32 n).length ≤ 1000000) : Calls Try.prog 43 #[a, b] w (LsPost w (dig B32 (m + n))) := by
  obtain ⟨A, c, rfl, _, hA⟩ := ha
  obtain ⟨A', c', rfl, _, hA'⟩ := hb
  have := refAdd_any A A' c c' _ _ _ _ w hA hA' (low_dig b32_two m) (low_dig b32_two n) rfl rfl hm hn
  rw [val_dig b32_two, val_dig b32_two] at this
  exact this
end Go.Proofs.Ytaegkhdkhgemmaa
