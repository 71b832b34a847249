/- slices.Clone and slices.Delete of a list of rows. -/
import Derived.Test.YtncmfjncdhhjoaaWTbl
import Derived.Deep.RegionLaw
import Derived.Lib.SliceRun
namespace Go.Proofs.Ytncmfjncdhhjoaa
open Go.RowKit

/-- Cells are written into a block that is known whole. -/
theorem Blk.cells {T : TypeId} {g : Nat} : ∀ (vs : List Value) (o : Nat) (w : World) (cur : List Value), Blk T w g cur → ∃ cur', Blk T (w.setCells g o vs) g cur' ∧ cur'.length = cur.length ∧
    (∀ j, j < vs.length → o + j < cur.length → cur'[o + j]? = vs[j]?) ∧ ∀ i, (i < o ∨ o + vs.length ≤ i) → cur'[i]? = cur[i]?
  | [], o, w, cur, h => ⟨cur, h, rfl, fun j hj => by simp at hj, fun _ _ => rfl⟩
  | v :: vs, o, w, cur, h => by
    obtain ⟨cur', h1, h2, h3, h4⟩ := Blk.cells vs (o + 1) (w.setCell ⟨g, o, none⟩ v) (cur.set o v) (h.set o v)
    rw [List.length_set] at h2 h3
    refine ⟨cur', h1, h2, fun j hj hjl => ?_, fun i hi => ?_⟩
    · cases j with
      | zero =>
        rw [Nat.add_zero] at hjl
        rw [Nat.add_zero, h4 o (.inl (by omega)), List.getElem?_set_self hjl]; rfl
      | succ j =>
        have := h3 j (by simpa using hj) (by omega)
        rw [show o + (j + 1) = o + 1 + j by omega, this]; rfl
    · rw [List.length_cons] at hi
      rw [h4 i (by omega), List.getElem?_set_ne (by omega)]
theorem below_cells {B g : Nat} {a : World} (hg : B ≤ g) : ∀ (vs : List Value) (o : Nat) (w : World), Below B a w → Below B a (w.setCells g o vs)
  | [], _, _, h => h
  | v :: vs, o, w, h => below_cells hg vs (o + 1) (w.setCell ⟨g, o, none⟩ v) (below_set h hg v)
theorem zero23 : ∀ w : World, (zeroValue 23).run Try.prog w = .ok (.slice none 0 0) w := fun w => by
  obtain ⟨i, hi, hz, _, _⟩ := info_parts info23
  simp [zeroValue, typeInfo, hi, hz]

set_option maxHeartbeats 2000000 in
set_option maxRecDepth 100000 in
theorem cloneR_any (a : Addr) (c n : Nat) (rows : List Value) (w : World) (hA : Vals w (some a) rows) (hn : n = rows.length) (h1 : ∀ v ∈ rows, v.oneCell' = true) (hn64 : n ≤ 64) :
    Calls Try.prog 65 #[.slice (some a) n c] w fun e w' => ∃ g cap, e = .returned (.slice (some ⟨g, 0, none⟩) n cap) ∧ w.heap.size ≤ g ∧ cap ≤ maxLen ∧ Hd 23 w' g cap rows ∧ Below w.heap.size w w' := by
  obtain ⟨i0, hi0, hz0, hz1, hz2⟩ := info_parts info23
  have hbA := below_new w (.cells #[] 23)
  have hnil : ∀ W : World, (binOp .eql 22 (.slice (some a) n c) (.slice none 0 0)).run Try.prog W = .ok (.bool false) W := fun W => Lib.run_eql_slice_nil W 22 23 (some a) n c 0 0 Try.underlying22
  have HV := Lib.hid (Vals.keep hA hbA)
  have HO := Lib.hid (own_empty w 23)
  have HN := Lib.hid hn
  have H1 := Lib.hid h1
  clear hA hn h1
  go_enter Try.func65, Try.ntmps65
  go_wp2_with (at_builtin
               refine wpList_append_own _ rfl _ _ 22 rfl w.heap.size 23 i0 (.slice none 0 0) 1 24 Try.underlying22 hi0 hz0 hz1 hz2 rfl (by decide) _ _ _ rfl HO.out a n _ rows rfl ?c1 (vals_cells HV.out) H1.out ?c4 ?c5 (by simp) ?_)
  case c1 => rw [HN.out]; omega
  case c4 => unfold maxLen; omega
  case c5 => omega
  intro v' w1 hown hgr hne
  have hown2 : w1.ownsRow w.heap.size 23 1 v' n rows := by simpa using hown
  have hnv : v' ≠ .slice none 0 0 := by simpa using hne
  have hb1 : Below w.heap.size w w1 := hbA.grown hgr hbA.size (by simp [Value.ownBlock])
  rcases hown2.2 with ⟨hx, _⟩ | ⟨g, cap, cur, rfl, hg, hcur, hle, hmx, hsz, htk⟩
  · exact absurd hx hnv
  · have hH : Hd 23 w1 g cap rows := by
      refine ⟨cur.toList.drop n, ?_, ?_⟩
      · have h8 : n = rows.length := HN.out
        have h10 : cur.toList.length = cur.size := Array.length_toList
        simp only [Nat.mul_one] at hsz
        have h9 : rows.length + (cur.toList.drop n).length = cap := by rw [List.length_drop]; omega
        exact h9
      · have e : rows ++ cur.toList.drop n = cur.toList := by
          have h7 : cur.toList.take n = rows := by simpa using htk
          conv => lhs; lhs; rw [← h7]
          exact List.take_append_drop _ _
        unfold Blk
        rw [e]
        simpa using hcur
    have HH := Lib.hid hH
    clear hown hown2 hgr hne hnv hcur htk hH
    go_wp2
    go_ret
    exact ⟨g, cap, rfl, hg, hmx, HH.out, hb1⟩

/-- What is left when a row is taken out. -/
theorem erase_parts {α : Type} {l : List α} {r : Nat} {cur : List α} {n : Nat} (hn : l.length = n + 1) (hr : r ≤ n) (h1 : ∀ j, j < n - r → cur[r + j]? = (l.drop (r + 1))[j]?) (h2 : ∀ i, i < r → cur[i]? = l[i]?) (hc : n ≤ cur.length) : cur.take n = l.eraseIdx r := by
  apply List.ext_getElem?
  intro i
  rw [List.getElem?_take, List.getElem?_eraseIdx]
  by_cases hi : i < n
  · rw [if_pos hi]
    by_cases hir : i < r
    · rw [if_pos hir]; exact h2 i hir
    · rw [if_neg hir]
      have := h1 (i - r) (by omega)
      rw [show r + (i - r) = i by omega, List.getElem?_drop] at this
      rw [this]; congr 1; omega
  · rw [if_neg hi]
    split
    · omega
    · rw [List.getElem?_eq_none (by omega)]

set_option maxHeartbeats 4000000 in
set_option maxRecDepth 100000 in
theorem delete_any (g cap n r N j : Nat) (rows : List Value) (w : World) (hN : N = n + 1) (hj : j = r + 1) (hA : Hd 23 w g cap rows) (hn : rows.length = n + 1) (hr : r ≤ n) (h1 : ∀ v ∈ rows, v.oneCell' = true) (hn64 : n ≤ 64) (hcm : cap ≤ maxLen) :
    Calls Try.prog 64 #[.slice (some ⟨g, 0, none⟩) N cap, .int .i64 (r : Int), .int .i64 (j : Int)] w fun e w' => e = .returned (.slice (some ⟨g, 0, none⟩) n cap) ∧ Hd 23 w' g cap (rows.eraseIdx r) ∧ Below g w w' := by
  obtain ⟨i0, hi0, hz0, hz1, hz2⟩ := info_parts info23
  have hcl := hA.cap_le
  have hgl := hA.lt
  obtain ⟨rest, hrl, hblk⟩ := hA
  have hlen : (rows ++ rest).length = cap := by rw [List.length_append]; exact hrl
  obtain ⟨news, hnews⟩ : ∃ news, news = rows.drop (j) := ⟨_, rfl⟩
  have hnl : news.length = n - r := by rw [hnews, List.length_drop, hn]; omega
  -- where the rows lie that move
  obtain ⟨A, hA, hsrc⟩ : ∃ A : Addr, (if cap = j then some (⟨g, 0, none⟩ : Addr) else some ⟨g, j, none⟩) = some A ∧ Hid (∀ t u, news[t]? = some u → w.drew.cell? (A.add t) = some u) := by
    by_cases h : cap = j
    · refine ⟨⟨g, 0, none⟩, by simp [h], fun t u hu => ?_⟩
      have := (List.getElem?_eq_some_iff.1 hu).1
      omega
    · refine ⟨⟨g, j, none⟩, by simp [h], fun t u hu => ?_⟩
      have e : (⟨g, j, none⟩ : Addr).add t = ⟨g, j + t, none⟩ := by
        unfold Addr.add
        split
        · rename_i h0; subst h0; rfl
        · rfl
      rw [e]
      show w.cell? _ = _
      rw [hblk.cell]
      rw [hnews, List.getElem?_drop] at hu
      rw [List.getElem?_append_left (by have := (List.getElem?_eq_some_iff.1 hu).1; omega)]
      exact hu
  obtain ⟨cur1, c1, c2, c3, c4⟩ := Blk.cells news r w.drew _ hblk.drew
  have hb1 : Below g w (w.drew.setCells g r news) := below_cells (Nat.le_refl _) _ _ _ (Below.refl g w).drew
  obtain ⟨cur2, e1, e2, e3, e4⟩ := Blk.cells [Value.slice none 0 0] n (w.drew.setCells g r news) cur1 c1
  have hb2 : Below g w ((w.drew.setCells g r news).setCells g n [Value.slice none 0 0]) := below_cells (Nat.le_refl _) _ _ _ hb1
  have hfin : Hd 23 ((w.drew.setCells g r news).setCells g n [Value.slice none 0 0]) g cap (rows.eraseIdx r) := by
    have htk : cur2.take n = rows.eraseIdx r := by
      refine erase_parts hn hr (fun q hq => ?_) (fun i hi => ?_) (by rw [e2, c2, hlen]; omega)
      · rw [e4 _ (.inl (by omega)), c3 _ (by omega) (by rw [hlen]; omega), hnews, hj]
      · rw [e4 i (.inl (by omega)), c4 i (.inl hi), List.getElem?_append_left (by omega)]
    refine ⟨cur2.drop n, ?_, ?_⟩
    · rw [← htk, ← List.length_append, List.take_append_drop, e2, c2, hlen]
    · rw [← htk, List.take_append_drop]; exact e1
  have s1 : Hid (news.length = (N - j) * 1) := Lib.hid (by rw [Nat.mul_one, hnl]; omega)
  have s2 : Hid (∀ u ∈ news, u.oneCell' = true) := Lib.hid (fun u hu => h1 u (List.mem_of_mem_drop (by rw [hnews] at hu; exact hu)))
  have s3 : Hid (∀ t, t < news.length → (w.drew.cell? ⟨g, 0 + r * 1 + t, none⟩).isSome = true ∧ w.drew.frozen? ⟨g, 0 + r * 1 + t, none⟩ = false) := Lib.hid (fun t ht => by
    rw [Nat.mul_one, Nat.zero_add]
    refine ⟨?_, hblk.frozen _⟩
    show (w.cell? _).isSome = true
    rw [hblk.cell, List.getElem?_eq_getElem (by rw [hlen]; omega)]; rfl)
  obtain ⟨W1, hW1⟩ : ∃ W1, W1 = w.drew.setCells g r news := ⟨_, rfl⟩
  have hW : Hid (W1 = w.drew.setCells g (0 + r * 1) news) := Lib.hid (by rw [hW1, Nat.mul_one, Nat.zero_add])
  rw [← hW1] at c1 hfin hb2
  have hcl2 : ∀ ty, (Builtin.clear_ #[22] ty #[.slice (some ⟨g, n, none⟩) 1 (cap - n)]).run Try.prog W1 = .ok (.tuple #[]) (W1.setCells g n [Value.slice none 0 0]) := fun ty =>
    Lib.run_clear_slice W1 22 23 ty (.slice none 0 0) Try.underlying22 zero23 rfl rfl g n 1 (cap - n) (by omega) (fun t ht => by rw [c1.cell, List.getElem?_eq_getElem (by rw [c2, hlen]; omega)]; rfl) (fun t ht => c1.frozen _)
  have HF := Lib.hid hfin
  have HB := Lib.hid hb2
  have hrc : r ≤ cap := by omega
  have hrN : r ≤ N := by omega
  have hjN : j ≤ N := by omega
  have hrj : r ≤ j := by omega
  have hjc : j ≤ cap := by omega
  have hNc : N ≤ cap := by omega
  have hneb : ((r : Int) == (j : Int)) = false := by simp; omega
  have hner : ¬ r = j := by omega
  have hnc : n ≤ cap := by omega
  have hne : ¬ cap = n := by omega
  have hnN : n ≤ N := by omega
  have hN1 : N - n = 1 := by omega
  have hrn : r + (N - j) = n := by omega
  have hcl3 : ∀ ty, (Builtin.clear_ #[22] ty #[.slice (some ⟨g, r + (N - j), none⟩) (N - (r + (N - j))) (cap - (r + (N - j)))]).run Try.prog W1 = .ok (.tuple #[]) (W1.setCells g n [Value.slice none 0 0]) := fun ty => by rw [hrn, hN1]; exact hcl2 ty
  clear hcl2
  have HRN := Lib.hid hrn
  have HN1 := Lib.hid hN1
  clear c1 c2 c3 c4 e1 e2 e3 e4 hb1 hb2 hfin hW1 hnews hnl hblk hrl hlen hn h1 hgl hN hj hrn hN1
  go_enter Try.func64, Try.ntmps64
  go_wp2_with (fail)
  go_region_law (refine step_append_room rfl (.tmp 22) (.tmp 25) 22 rfl 23 i0 1 Try.underlying22 hi0 hz1 g 0 r cap (by simp [Act.eval, Act.put]) A (N - j) (cap - j) news (by simp [Act.eval, Act.put]) s1.out hsrc.out s2.out (by omega) s3.out ?_; rw [← hW.out])
  go_wp2
  go_ret
  exact ⟨by rw [HRN.out]; rfl, HF.out, HB.out⟩
end Go.Proofs.Ytncmfjncdhhjoaa
