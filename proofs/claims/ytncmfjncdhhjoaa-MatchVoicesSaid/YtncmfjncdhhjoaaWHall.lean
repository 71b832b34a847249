/- Hall: rows that have too few columns. -/
import Derived.Test.YtncmfjncdhhjoaaWAll
import Derived.Test.YtncmfjncdhhjoaaWSrt
import Derived.Test.YtncmfjncdhhjoaaWCk
import Derived.Laws.AppendOwn
namespace Go.Proofs.Ytncmfjncdhhjoaa
open Go.RowKit

theorem ownsRow_keep {B T s : Nat} {w w' : World} {v : Value} {n : Nat} {xs : List Value} (h : w.ownsRow B T s v n xs) (hb : Below w.heap.size w w') : w'.ownsRow B T s v n xs := by
  refine ⟨h.1, ?_⟩
  rcases h.2 with h | ⟨g, cap, cur, e, hg, hh, r⟩
  · exact .inl h
  · exact .inr ⟨g, cap, cur, e, hg, (hb.block g (Array.getElem?_eq_some_iff.1 hh).1).trans hh, r⟩

/-- What slices.Sort owes for at most K ints. -/
def SortK (K : Nat) : Prop := ∀ (B g cap n c : Nat) (f : Nat → Int) (w : World), Hd 3 w g cap (fl f n) → 1 ≤ n → n ≤ K → B ≤ g →
  Calls Try.prog 63 #[.slice (some ⟨g, 0, none⟩) n c] w (SortPost B g cap n f w)
theorem sortK_12 : SortK 12 := fun B g cap n c f w hH h1 h2 hB => sort_small B g cap n c f w hH ⟨h1, h2⟩ hB

/-- The stuck row and the owners of the columns that the search came to. -/
def hallL (i : Nat) (o : Nat → Int) (s : Nat → Bool) (k : Nat) : List Int := (i : Int) :: ((List.range k).filter s).map o
theorem hallL_t {i : Nat} {o : Nat → Int} {s : Nat → Bool} {k : Nat} (h : s k = true) : hallL i o s (k + 1) = hallL i o s k ++ [o k] := by
  unfold hallL
  rw [List.range_succ, List.filter_append, List.map_append]
  simp [h]
theorem hallL_f {i : Nat} {o : Nat → Int} {s : Nat → Bool} {k : Nat} (h : s k = false) : hallL i o s (k + 1) = hallL i o s k := by
  unfold hallL
  rw [List.range_succ, List.filter_append, List.map_append]
  simp [h]
theorem hallL_len {i : Nat} {o : Nat → Int} {s : Nat → Bool} {k : Nat} : (hallL i o s k).length ≤ k + 1 := by
  unfold hallL
  have := List.length_filter_le s (List.range k)
  simp only [List.length_cons, List.length_map]
  rw [List.length_range] at this
  omega
theorem is_fl (l : List Int) : is l = fl (fun k => l.getD k 0) l.length := by
  apply List.ext_getElem?
  intro j
  by_cases hj : j < l.length
  · rw [fl_at hj, is_cell hj]
  · rw [List.getElem?_eq_none (by rw [is_len]; omega), List.getElem?_eq_none (by rw [fl_len]; omega)]

/-- How many rows Hall names: no more than there are. -/
theorem hallL_le {m i : Nat} {may : Nat → Nat → Bool} {o : Nat → Int} {s : Nat → Bool} (S : PairSt m may o i) (hs : ∀ j, j < m → s j = true → ∃ q : Nat, o j = (q : Int)) :
    (hallL i o s m).length ≤ i + 1 := by
  have h := nodup_le (l1 := ((List.range m).filter s).map (fun j => (o j).toNat)) (l2 := List.range i)
    (nodup_map (List.Pairwise.filter _ List.nodup_range) fun a b ha hb e => by
      obtain ⟨ha1, ha2⟩ := List.mem_filter.1 ha
      obtain ⟨hb1, hb2⟩ := List.mem_filter.1 hb
      have ha1 := List.mem_range.1 ha1
      have hb1 := List.mem_range.1 hb1
      obtain ⟨p, ep⟩ := hs a ha1 ha2
      obtain ⟨q, eq⟩ := hs b hb1 hb2
      refine S.inj a b ha1 hb1 ?_ (by omega)
      rw [ep, eq] at e ⊢
      simp at e; omega)
    (by
      intro x hx
      obtain ⟨j, hj, rfl⟩ := List.mem_map.1 hx
      obtain ⟨hj1, hj2⟩ := List.mem_filter.1 hj
      have hj1 := List.mem_range.1 hj1
      obtain ⟨q, e⟩ := hs j hj1 hj2
      have := (S.rows q).1 ⟨j, hj1, e⟩
      rw [e]; simpa using this)
  unfold hallL
  simp only [List.length_cons, List.length_map, List.length_range] at h ⊢
  omega

def HallPost (w : World) (ls : List (List Int)) (e : Ending) (w' : World) : Prop :=
  Below w.heap.size w w' ∧ ((chkT ls = false ∧ e = .returned (.tuple #[.slice none 0 0, .int .i64 1])) ∨
    (∃ n m o, chkT ls = true ∧ ls.length = n ∧ Good n m ls ∧ (1 ≤ n ∧ n ≤ m ∧ m ≤ 64) ∧ PairSt m (mayC (cst ls)) o n ∧ e = .returned (.tuple #[.slice none 0 0, .int .i64 6])) ∨
    (∃ n m i o s g cap N f, chkT ls = true ∧ ls.length = n ∧ Good n m ls ∧ (1 ≤ n ∧ n ≤ m ∧ m ≤ 64) ∧ i < n ∧ PairSt m (mayC (cst ls)) o i ∧ Room m (mayC (cst ls)) i 0 o (fun _ => false) false o s ∧
      N = (hallL i o s m).length ∧ Swp N (fun k => (hallL i o s m).getD k 0) f ∧ Srt f N ∧ w.heap.size ≤ g ∧ Hd 3 w' g cap (fl f N) ∧
      e = .returned (.tuple #[.slice (some ⟨g, 0, none⟩) N cap, .int .i64 0])))

set_option maxHeartbeats 4000000 in
set_option maxRecDepth 100000 in
theorem hall_any (K : Nat) (hK : SortK K) (A : Option Addr) (c L : Nat) (ls : List (List Int)) (w : World) (T : Tab w.heap.size w A ls) (hL : L = ls.length) (hLK : L ≤ K) :
    Calls Try.prog 38 #[.slice A L c] w (HallPost w ls) := by
  have hck := check_any w.heap.size A c L ls w T hL
  cases hchk : chkT ls with
  | false =>
    have hce : ckE ls = 1 := by unfold ckE; rw [hchk]; rfl
    rw [hce] at hck
    have HCK := Lib.hid hck
    clear hck hL T hce
    go_enter Try.func38, Try.ntmps38
    go_wp2_with (go_at_call 25; refine (HCK.out).mono ?_; rintro e w1 ⟨rfl, rfl⟩)
    go_ret2
    exact ⟨Below.refl _ _, .inl ⟨hchk, rfl⟩⟩
  | true =>
    have hce : ckE ls = 0 := by unfold ckE; rw [hchk]; rfl
    rw [hce] at hck
    obtain ⟨n, m, hn, hm, h1, h2, h3, G⟩ := chkT_good hchk
    have hLn : L = n := by omega
    subst hLn
    have hal := allowed_any w.heap.size L m c A ls w G T (Nat.le_refl _) h1
    have HCK := Lib.hid hck
    have HL := Lib.hid hL
    have HG := Lib.hid G
    have HT := Lib.hid T
    have HCH := Lib.hid hchk
    have HNN := Lib.hid hn
    have HAL := Lib.hid hal
    have HKK := Lib.hid hK
    clear hck hL T hce hn hm G hchk hal hK
    obtain ⟨i0, hi0, hz0, hz1, hz2⟩ := info_parts infoI
    go_enter Try.func38, Try.ntmps38
    go_wp2_with (first
      | (go_at_call 25; refine (HCK.out).mono ?_; rintro e w1 ⟨rfl, rfl⟩)
      | (go_at_call 60; refine (HAL.out).mono ?_; rintro e w2 ⟨b, rfl, hb1, hb2, hb3, hl2⟩)
      | (go_at_call 59; refine (newPairing_any _ _ _ m (by omega) h3 _).mono ?_; rintro e w3 ⟨pp, ho, hk, hs, rfl, hPa, hl3⟩)
      | (go_at_call 52; refine (firstStuckP_any [] w2.heap.size pp ho hk hs L m (.pointer (some ⟨b, 0, none⟩)) (mayC (cst ls)) w2 h3 (by omega)
           (fun W hW row k hrow hk => allowedC_any w.heap.size b L m c row k A ls W ((hW.cell (p := ⟨b, 0, none⟩) hb2).trans hb3) HG.out (HT.out.keep (hl2.trans (hW.mono hl2.size))) hrow hk) _ hl3 hPa).mono ?_
         rintro e w4 ⟨hl4, i, o, s, rfl, hP4, hS4, hcase⟩
         have hl24 : Below w.heap.size w w4 := hl2.trans ((hl3.trans hl4).mono hl2.size)
         have hl234 : Below w2.heap.size w2 w4 := hl3.trans hl4
         have hPA := hP4.keepAll (below_new w4 (.cells #[.int .i64 (i : Int)] 3))
         have q2 : (w4.alloc (.cells #[.int .i64 (i : Int)] 3)).cell? ⟨pp, 2, none⟩ = some (.slice (some ⟨ho, 0, none⟩) m m) := hPA.box.cell 2
         have HPA := Lib.hid hPA
         have HCA := Lib.hid hcase
         clear hPa hPA hcase))
    · rename_i hq
      have hiL : i = L := by simp at hq; omega
      subst hiL
      go_ret2
      exact ⟨hl24, .inr (.inl ⟨i, m, o, HCH.out, HNN.out, HG.out, ⟨h1, h2, h3⟩, hS4, rfl⟩)⟩
    · have hiL : ¬ i = L := by
        intro e
        have h9 : ((i : Int) == (L : Int)) = false := by assumption
        simp [e] at h9
      obtain ⟨hi, HRM⟩ : i < L ∧ Hid (Room m (mayC (cst ls)) i 0 o (fun _ => false) false o s) := by
        rcases HCA.out with h | ⟨h, h'⟩
        · exact absurd h hiL
        · exact ⟨h, Lib.hid h'⟩
      clear HCA hiL
      have hown0 : (w4.alloc (.cells #[.int .i64 (i : Int)] 3)).ownsRow w4.heap.size 3 1 (.slice (some ⟨w4.heap.size, 0, none⟩) 1 1) 1 (is (hallL i o s 0)) := by
        have h : Hd 3 (w4.alloc (.cells #[.int .i64 (i : Int)] 3)) w4.heap.size 1 [.int .i64 (i : Int)] := Hd.of_blk (Blk.new w4 3 [.int .i64 (i : Int)])
        exact h.owns (Nat.le_refl _) (by unfold maxLen; omega)
      have hfar := HPA.out.far
      have hlt4 := hP4.box.lt
      have hlt5 := hP4.own.lt
      have hlt6 := hP4.seen.lt
      have hlt7 := hP4.kept.lt
      have hlA : Below w4.heap.size w4 (w4.alloc (.cells #[.int .i64 (i : Int)] 3)) := below_new w4 _
      have hsq : ∀ j, j < m → s j = true → ∃ q : Nat, o j = (q : Int) := fun j hj hs' => by
        obtain ⟨q, e, _⟩ := (HRM.out.vain rfl).1 j hj rfl hs'
        exact ⟨q, e⟩
      have hPk : ∀ W, Below w4.heap.size w4 W → PaM [] w2.heap.size W pp ho hk hs (.func (.func 76) #[] #[.pointer (some ⟨b, 0, none⟩)]) m o (fun _ => false) s := fun W h => hP4.keepAll h
      have HPK := Lib.hid hPk
      have HSQ := Lib.hid hsq
      have HS4 := Lib.hid hS4
      have HO0 := Lib.hid hown0
      clear hPk hsq hS4 hown0 hP4 HPA
      go_wp2_with (fail)
      go_loopw [6, 7, 8, 31] (fun v _ _ t wr => ∃ (k g cap : Nat), k ≤ m ∧ w4.heap.size ≤ g ∧ t = .int .i64 (k : Int) ∧ v = .slice (some ⟨g, 0, none⟩) (hallL i o s k).length cap ∧ Hid (wr.ownsRow w4.heap.size 3 1 (.slice (some ⟨g, 0, none⟩) (hallL i o s k).length cap) (hallL i o s k).length (is (hallL i o s k))) ∧ Below w4.heap.size w4 wr) (fun _ _ _ t _ => m - (intOf t).toNat)
      case atStart => exact ⟨0, w4.heap.size, 1, Nat.zero_le _, Nat.le_refl _, rfl, rfl, HO0, hlA⟩
      case round =>
        clear HO0 hlA q2
        obtain ⟨k, g, cap, hkm, hg4, rfl, rfl, HOW, hl⟩ := hrel
        by_cases hlk : k < m
        · have hP := HPK.out wr hl
          have q3 : wr.cell? ⟨pp, 4, none⟩ = some (.slice (some ⟨hs, 0, none⟩) m m) := hP.box.cell 4
          have co := hP.own.int hlk
          have cs := hP.seen.bool hlk
          have hlen := hallL_len (i := i) (o := o) (s := s) (k := k)
          cases hsk : s k with
          | false =>
            rw [hsk] at cs
            have hN := hallL_f (i := i) (o := o) hsk
            rw [← hN] at HOW hlen ⊢
            clear hsk hN hP
            go_wp2
            go_roundw
            case rel => exact ⟨k + 1, g, cap, by omega, hg4, by go_num, rfl, HOW, hl⟩
            case measure => simp [intOf]; omega
          | true =>
            rw [hsk] at cs
            have hN := hallL_t (i := i) (o := o) hsk
            have HN := Lib.hid hN
            clear hsk hN hP
            generalize hx : o k = x at *
            have ho2 := ownsRow_keep HOW.out (below_new wr (.cells #[.int .i64 x] 3))
            have hl5 : Below w4.heap.size w4 (wr.alloc (.cells #[.int .i64 x] 3)) := bel_alloc hl hl.size
            have hv2 : Vals (wr.alloc (.cells #[.int .i64 x] 3)) (some ⟨wr.heap.size, 0, none⟩) (is [x]) := (Blk.new wr 3 [.int .i64 x]).vals0
            have HO2 := Lib.hid ho2
            have HV2 := Lib.hid hv2
            have hsz := hl.size
            clear ho2 hv2
            go_wp2_with (at_builtin
                         refine wpList_append_own _ rfl _ _ 23 rfl w4.heap.size 3 i0 (.int .i64 0) 1 8 Try.underlying23 hi0 hz0 hz1 hz2 rfl (by decide) _ _ _ rfl HO2.out ⟨wr.heap.size, 0, none⟩ 1 1 (is [x]) rfl rfl (vals_cells HV2.out) (is_one _) ?c4 ?c5 ?c6 ?_)
            case c4 => unfold maxLen; omega
            case c5 => omega
            case c6 => simp; omega
            intro v' w6 hown hgr hne
            have hv : v' ≠ .slice none 0 0 := by simpa using hne
            have hl6 : Below w4.heap.size w4 w6 := hl5.grown hgr hl5.size (by simp [Value.ownBlock]; omega)
            have hlen1 : (is (hallL i o s k) ++ is [x]).length = (hallL i o s (k + 1)).length := by rw [HN.out, ← is_append, is_len]
            have happ : is (hallL i o s k) ++ is [x] = is (hallL i o s (k + 1)) := by rw [HN.out, is_append]
            obtain ⟨g', cap', he, hg', hnn, _⟩ := Hd.of_owns hown hv
            rw [hlen1] at he hnn
            subst he
            rw [hnn, happ] at hown
            have HOW2 := Lib.hid hown
            clear hown hgr hne hv happ hlen1 hnn HOW HO2 HV2
            go_wp2
            go_roundw
            case rel => exact ⟨.slice (some ⟨g', 0, none⟩) (hallL i o s (k + 1)).length cap', _, _, .int .i64 ((k : Int) + 1), _, _, _, _, _, _, _, _, _, _, _, _, _, _, _, _, ⟨k + 1, g', cap', by omega, hg', by go_num, rfl, HOW2, hl6⟩, by rw [show ((i : Int) == (L : Int)) = false by assumption]⟩
            case measure => simp [intOf]; omega
        · obtain rfl : k = m := by omega
          have hle := hallL_le HS4.out HSQ.out
          have hpos : 1 ≤ (hallL i o s k).length := by unfold hallL; simp
          obtain ⟨g', cap', he, hg', hnn, hH'⟩ := Hd.of_owns HOW.out (by simp)
          rw [is_len] at he
          injection he with he1 he2 he3
          injection he1 with he1
          injection he1 with he1
          subst he1 he3
          rw [is_fl] at hH'
          have hso := HKK.out w4.heap.size g cap _ cap _ wr hH' hpos (by omega) hg'
          have HSO := Lib.hid hso
          have hbl := hl24
          generalize hNN : (hallL i o s k).length = N at *
          have HNL := Lib.hid hNN
          clear hso hH' hNN hnn HOW hle
          go_wp2_with (go_at_call 63; refine (HSO.out).mono ?_; rintro e w7 ⟨⟨_, rfl⟩, f', hHf, hSw, hSr, hl7⟩)
          have HW := Lib.hid hSw
          have HR2 := Lib.hid hSr
          have HHF := Lib.hid hHf
          clear hSw hSr hHf
          go_ret2
          exact ⟨hl24.trans ((hl.trans hl7).mono hl24.size), .inr (.inr ⟨L, k, i, o, s, g, cap, N, f', HCH.out, HNN.out, HG.out, ⟨h1, h2, h3⟩, hi, HS4.out, HRM.out, HNL.out.symm, HW.out, HR2.out, by have := hl24.size; omega, HHF.out, rfl⟩)⟩

end Go.Proofs.Ytncmfjncdhhjoaa
