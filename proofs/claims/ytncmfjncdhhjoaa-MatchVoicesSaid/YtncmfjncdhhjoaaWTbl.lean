/- table: the first rows and columns, in memory of the call's own. -/
import Derived.Test.YtncmfjncdhhjoaaWTab
namespace Go.Proofs.Ytncmfjncdhhjoaa
open Go.RowKit

/-- A table that came in: rows of ints anywhere. -/
def TabIn (w : World) (A : Option Addr) (ls : List (List Int)) : Prop :=
  ∃ rows : List Value, rows.length = ls.length ∧ Vals w A rows ∧
    ∀ (i : Nat) (l : List Int), ls[i]? = some l → ∃ Ai ci, rows[i]? = some (.slice Ai l.length ci) ∧ l.length ≤ ci ∧ (Ai = none → ci = 0) ∧ Ints w Ai l
theorem TabIn.keep {w w' : World} {A : Option Addr} {ls : List (List Int)} (h : TabIn w A ls) (hb : Below w.heap.size w w') : TabIn w' A ls := by
  obtain ⟨rows, h1, h2, h3⟩ := h
  refine ⟨rows, h1, h2.keep hb, fun i l hl => ?_⟩
  obtain ⟨Ai, ci, e, hc, hn, hv⟩ := h3 i l hl
  exact ⟨Ai, ci, e, hc, hn, hv.keep hb⟩
theorem TabIn.row {w : World} {A : Option Addr} {ls : List (List Int)} (h : TabIn w A ls) {i : Nat} {l : List Int} (hl : ls[i]? = some l) :
    ∃ g off Ai ci, A = some ⟨g, off, none⟩ ∧ w.cell? ⟨g, off + i, none⟩ = some (.slice Ai l.length ci) ∧ l.length ≤ ci ∧ (Ai = none → ci = 0) ∧ Ints w Ai l := by
  obtain ⟨rows, h1, h2, h3⟩ := h
  obtain ⟨Ai, ci, e, hc, hn, hv⟩ := h3 i l hl
  obtain ⟨g, off, v, e1, _, e2, e3⟩ := h2.at_ (i := i) (by have := (List.getElem?_eq_some_iff.1 e).1; omega)
  rw [e] at e2
  injection e2 with e2
  exact ⟨g, off, Ai, ci, e1, by rw [e2]; exact e3, hc, hn, hv⟩

/-- The table of the first rows and columns. -/
def tblL (ls : List (List Int)) (R C : Nat) : List (List Int) := (ls.take R).map (·.take C)

/-- What table gives back: a table of the call's own. -/
def TblPost (w : World) (ls : List (List Int)) (e : Ending) (w' : World) : Prop :=
  ∃ v es, e = .returned v ∧ Held w.heap.size w' v es ∧ es.map (·.2) = ls ∧ Below w.heap.size w w'
theorem Held.tab {B : Nat} {w : World} {v : Value} {es : List (Value × List Int)} (h : Held B w v es) (hv : v ≠ .slice none 0 0) (he : ∀ e, e ∈ es → e.1 ≠ .slice none 0 0) :
    ∃ g cap, v = .slice (some ⟨g, 0, none⟩) es.length cap ∧ Tab w.heap.size w (some ⟨g, 0, none⟩) (es.map (·.2)) := by
  obtain ⟨g, cap, e, hg, hn, hH⟩ := Hd.of_owns h.spine hv
  rw [List.length_map] at e
  refine ⟨g, cap, e, es.map (·.1), by simp, fun hl => ?_, fun i l hl => ?_⟩
  · obtain ⟨g', off, e1, h1, h2⟩ := hH.vals hl
    exact ⟨g', off, e1, h1, h2⟩
  · rw [List.getElem?_map] at hl
    obtain ⟨x, hx, rfl⟩ := Option.map_eq_some_iff.1 hl
    have hm := List.mem_of_getElem? hx
    obtain ⟨g', cap', e', h1, h2, h3, h4⟩ := own_written (h.each x hm) (he x hm)
    exact ⟨_, cap', by rw [List.getElem?_map, hx, Option.map_some, e'], fun hp => by
      obtain ⟨g2, off2, q1, q2, q3⟩ := h1 hp
      exact ⟨g2, off2, q1, q2, q3⟩⟩

theorem tbl_next {ls : List (List Int)} {i C : Nat} {l : List Int} (h : ls[i]? = some l) {es : List (Value × List Int)} (he : es.map (·.2) = (ls.take i).map (·.take C)) (v : Value) :
    (es ++ [(v, l.take C)]).map (·.2) = (ls.take (i + 1)).map (·.take C) := by
  rw [List.map_append, he, List.take_add_one, h]
  simp

set_option maxHeartbeats 4000000 in
set_option maxRecDepth 100000 in
theorem table_any (A : Option Addr) (c L R C : Nat) (ls : List (List Int)) (w : World) (T : TabIn w A ls) (hL : L = ls.length) (hR : R ≤ 100) (hC : C ≤ 1000) :
    Calls Try.prog 21 #[.slice A L c, .int .i64 (R : Int), .int .i64 (C : Int)] w fun e w' =>
      ∃ v es, e = .returned v ∧ Held w.heap.size w' v es ∧ v ≠ .slice none 0 0 ∧ (∀ x, x ∈ es → x.1 ≠ .slice none 0 0) ∧ es.map (·.2) = tblL ls R C ∧ Below w.heap.size w w' := by
  obtain ⟨i0, hi0, hz0, hz1, hz2⟩ := info_parts infoI
  have h0 : Held w.heap.size (w.alloc (.cells #[] 23)) (.slice (some ⟨w.heap.size, 0, none⟩) 0 0) [] :=
    ⟨own_empty w 23, fun e he => by simp at he, fun i j e f g he => by simp at he, fun e he => by simp at he⟩
  have hl0 := below_new w (.cells #[] 23)
  have HT := Lib.hid T
  have HL := Lib.hid hL
  have H0 := Lib.hid h0
  clear T hL h0
  go_enter Try.func21, Try.ntmps21
  go_wp2_with (fail)
  go_loopw [7, 8, 9] (fun v t _ wr => ∃ (i : Nat) (es : List (Value × List Int)), i ≤ L ∧ i ≤ R ∧ t = .int .i64 (i : Int) ∧ es.length = i ∧ Held w.heap.size wr v es ∧ v ≠ .slice none 0 0 ∧ Hid (∀ x, x ∈ es → x.1 ≠ .slice none 0 0) ∧ Hid (es.map (·.2) = (ls.take i).map (·.take C)) ∧ Below w.heap.size w wr) (fun _ t _ _ => L - (intOf t).toNat)
  case atStart => exact ⟨0, [], Nat.zero_le _, Nat.zero_le _, rfl, rfl, H0.out, by simp, Lib.hid (by simp), Lib.hid (by simp), hl0⟩
  case round =>
    clear H0 hl0
    obtain ⟨i, es, hi, hiR, rfl, hes, hH, hv0, HN, HE, hl⟩ := hrel
    have HES := Lib.hid hes
    clear hes
    by_cases hlt : i < L
    · by_cases hlR : i < R
      · obtain ⟨l, hl'⟩ : ∃ l, ls[i]? = some l := ⟨ls[i]'(by have := HL.out; omega), List.getElem?_eq_getElem _⟩
        obtain ⟨g, off, Ai, ci, rfl, hci, hlc, hnil, hv⟩ := (HT.out.keep hl).row hl'
        have HNX := fun v => tbl_next (C := C) hl' HE.out v
        have HNX2 := Lib.hid HNX
        clear HNX hl'
        obtain ⟨K, hK⟩ : ∃ K, K = l.length := ⟨_, rfl⟩
        rw [← hK] at hci hlc
        have HK := Lib.hid hK
        clear hK
        have HH := Lib.hid hH
        clear hH
        have hm : (l.take C).length = if C < K then C else K := by rw [List.length_take, HK.out]; split <;> omega
        have hvt : Ints (wr.alloc (.cells #[] 3)) Ai (l.take C) := by
          have := (Vals.take hv C).keep (below_new wr (.cells #[] 3))
          rwa [is_take] at this
        have hpos : 0 < K → ∃ ad, Ai = some ad := fun h => by
          obtain ⟨g2, off2, e, _⟩ := hv (by rw [is_len, ← HK.out]; exact h)
          exact ⟨_, e⟩
        have HO := Lib.hid (own_empty wr 3)
        by_cases hCK : C < K
        · rw [if_pos hCK] at hm
          obtain ⟨ad, rfl⟩ := hpos (by omega)
          have HM := Lib.hid hm
          have HV := Lib.hid hvt
          have hd : decide ((C : Int) < (K : Int)) = true := by simp; omega
          clear hm hvt hv hpos
          go_wp2_with (at_builtin
                       refine wpList_append_own _ rfl _ _ 23 rfl wr.heap.size 3 i0 (.int .i64 0) 1 8 Try.underlying23 hi0 hz0 hz1 hz2 rfl (by decide) _ _ _ rfl HO.out ad C _ (is (l.take C)) rfl ?c1 (vals_cells HV.out) (is_one _) ?c4 ?c5 (by simp) ?_)
          case c1 => rw [is_len, HM.out]; omega
          case c4 => unfold maxLen; omega
          case c5 => omega
          intro v' w6 hown hgr hne
          have hv1 : v' ≠ .slice none 0 0 := by simpa using hne
          have hbw : Below wr.heap.size wr w6 := (below_new wr (.cells #[] 3)).grown hgr (by simp) (by simp [Value.ownBlock])
          have hy : OwnLs wr.heap.size w6 v' (l.take C) := by
            unfold OwnLs
            rw [HM.out]
            simpa using hown
          obtain ⟨g7, cap7, he7, _⟩ := own_written hy hv1
          rw [HM.out] at he7
          subst he7
          clear hown hgr hne
          go_wp2_with (at_builtin
                       refine wp_pushH rfl (.tmp 33) (.tmp 37) rfl w.heap.size i wr w6 _ (Value.slice (some ⟨g7, 0, none⟩) C cap7) 1 es (l.take C) rfl HES.out HH.out (by omega) hl.size hy hbw _ (by simp) rfl ?_)
          intro rv' w7 hH7 hl7
          have hv7 : rv' ≠ .slice none 0 0 := by
            rintro rfl
            rcases hH7.spine.2 with ⟨_, h0⟩ | ⟨g9, cap9, cur9, h9, _⟩
            · simp at h0
            · cases h9
          have HN7 : Hid (∀ x, x ∈ es ++ [((Value.slice (some ⟨g7, 0, none⟩) C cap7), l.take C)] → x.1 ≠ .slice none 0 0) := Lib.hid (fun x hx => by
            rcases List.mem_append.1 hx with hx | hx
            · exact HN.out x hx
            · have e := List.mem_singleton.1 hx
              subst e; exact hv1)
          have HE7 := Lib.hid (HNX2.out (Value.slice (some ⟨g7, 0, none⟩) C cap7))
          have hlen7 : (es ++ [((Value.slice (some ⟨g7, 0, none⟩) C cap7), l.take C)]).length = i + 1 := by rw [List.length_append, HES.out]; rfl
          have HLE7 := Lib.hid hlen7
          have HH7 := Lib.hid hH7
          have hl8 := hl.trans hl7
          clear hH7 hy hbw hlen7
          go_wp2
          go_roundw
          case rel => exact ⟨i + 1, _, by omega, by omega, by go_num, HLE7.out, HH7.out, hv7, HN7, HE7, hl8⟩
          case measure => simp [intOf]; omega
        · rw [if_neg hCK] at hm
          have hd : decide ((C : Int) < (K : Int)) = false := by simp; omega
          have hK1 : K ≤ C := by omega
          rcases Ai with _ | ad
          · have hK0 : K = 0 := by
              rcases Nat.eq_zero_or_pos K with h | h
              · exact h
              · obtain ⟨ad, e⟩ := hpos h; cases e
            subst hK0
            have hc0 : ci = 0 := hnil rfl
            subst hc0
            have hl0 : l.take C = [] := List.eq_nil_of_length_eq_zero hm
            have hy : OwnLs wr.heap.size (wr.alloc (.cells #[] 3)) (Value.slice (some ⟨wr.heap.size, 0, none⟩) 0 0) (l.take C) := by
              rw [hl0]; exact HO.out
            have hbw := below_new wr (.cells #[] 3)
            have hv1 : Value.slice (some ⟨wr.heap.size, 0, none⟩) 0 0 ≠ .slice none 0 0 := by simp
            clear hm hvt hv hpos hl0 hnil
            go_wp2_with (first
              | (at_builtin; refine wpList_append_own_none rfl _ _ 23 rfl wr.heap.size 3 i0 1 Try.underlying23 hi0 _ _ _ rfl HO.out rfl ?_)
              | (at_builtin; refine wp_pushH rfl (.tmp 33) (.tmp 37) rfl w.heap.size i wr (wr.alloc (.cells #[] 3)) _ (Value.slice (some ⟨wr.heap.size, 0, none⟩) 0 0) 1 es (l.take C) rfl HES.out HH.out (by omega) hl.size hy hbw _ (by simp) rfl ?_))
            intro rv' w7 hH7 hl7
            have hv7 : rv' ≠ .slice none 0 0 := by
              rintro rfl
              rcases hH7.spine.2 with ⟨_, h0⟩ | ⟨g9, cap9, cur9, h9, _⟩
              · simp at h0
              · cases h9
            have HN7 : Hid (∀ x, x ∈ es ++ [((Value.slice (some ⟨wr.heap.size, 0, none⟩) 0 0), l.take C)] → x.1 ≠ .slice none 0 0) := Lib.hid (fun x hx => by
              rcases List.mem_append.1 hx with hx | hx
              · exact HN.out x hx
              · have e := List.mem_singleton.1 hx
                subst e; exact hv1)
            have HE7 := Lib.hid (HNX2.out (Value.slice (some ⟨wr.heap.size, 0, none⟩) 0 0))
            have hlen7 : (es ++ [((Value.slice (some ⟨wr.heap.size, 0, none⟩) 0 0), l.take C)]).length = i + 1 := by rw [List.length_append, HES.out]; rfl
            have HLE7 := Lib.hid hlen7
            have HH7 := Lib.hid hH7
            have hl8 := hl.trans hl7
            clear hH7 hy hbw hlen7
            go_wp2
            go_roundw
            case rel => exact ⟨i + 1, _, by omega, by omega, by go_num, HLE7.out, HH7.out, hv7, HN7, HE7, hl8⟩
            case measure => simp [intOf]; omega
          · have HM := Lib.hid hm
            have HV := Lib.hid hvt
            clear hm hvt hv hpos
            go_wp2_with (at_builtin
                         refine wpList_append_own _ rfl _ _ 23 rfl wr.heap.size 3 i0 (.int .i64 0) 1 8 Try.underlying23 hi0 hz0 hz1 hz2 rfl (by decide) _ _ _ rfl HO.out ad K _ (is (l.take C)) rfl ?c1 (vals_cells HV.out) (is_one _) ?c4 ?c5 (by simp) ?_)
            case c1 => rw [is_len, HM.out]; omega
            case c4 => unfold maxLen; omega
            case c5 => omega
            intro v' w6 hown hgr hne
            have hv1 : v' ≠ .slice none 0 0 := by simpa using hne
            have hbw : Below wr.heap.size wr w6 := (below_new wr (.cells #[] 3)).grown hgr (by simp) (by simp [Value.ownBlock])
            have hy : OwnLs wr.heap.size w6 v' (l.take C) := by
              unfold OwnLs
              rw [HM.out]
              simpa using hown
            obtain ⟨g7, cap7, he7, _⟩ := own_written hy hv1
            rw [HM.out] at he7
            subst he7
            clear hown hgr hne
            go_wp2_with (at_builtin
                         refine wp_pushH rfl (.tmp 33) (.tmp 37) rfl w.heap.size i wr w6 _ (Value.slice (some ⟨g7, 0, none⟩) K cap7) 1 es (l.take C) rfl HES.out HH.out (by omega) hl.size hy hbw _ (by simp) rfl ?_)
            intro rv' w7 hH7 hl7
            have hv7 : rv' ≠ .slice none 0 0 := by
              rintro rfl
              rcases hH7.spine.2 with ⟨_, h0⟩ | ⟨g9, cap9, cur9, h9, _⟩
              · simp at h0
              · cases h9
            have HN7 : Hid (∀ x, x ∈ es ++ [((Value.slice (some ⟨g7, 0, none⟩) K cap7), l.take C)] → x.1 ≠ .slice none 0 0) := Lib.hid (fun x hx => by
              rcases List.mem_append.1 hx with hx | hx
              · exact HN.out x hx
              · have e := List.mem_singleton.1 hx
                subst e; exact hv1)
            have HE7 := Lib.hid (HNX2.out (Value.slice (some ⟨g7, 0, none⟩) K cap7))
            have hlen7 : (es ++ [((Value.slice (some ⟨g7, 0, none⟩) K cap7), l.take C)]).length = i + 1 := by rw [List.length_append, HES.out]; rfl
            have HLE7 := Lib.hid hlen7
            have HH7 := Lib.hid hH7
            have hl8 := hl.trans hl7
            clear hH7 hy hbw hlen7
            go_wp2
            go_roundw
            case rel => exact ⟨i + 1, _, by omega, by omega, by go_num, HLE7.out, HH7.out, hv7, HN7, HE7, hl8⟩
            case measure => simp [intOf]; omega
      · have hfin : i = R := by omega
        have hd : decide ((i : Int) < (R : Int)) = false := by simp; omega
        subst hfin
        go_wp2
        go_ret
        exact ⟨_, es, rfl, hH, hv0, HN.out, by rw [HE.out]; rfl, hl⟩
    · have hfin : i = L := by omega
      subst hfin
      have hE2 : es.map (·.2) = tblL ls R C := by
        rw [HE.out]; unfold tblL
        rw [List.take_of_length_le (by have := HL.out; omega), List.take_of_length_le (by have := HL.out; omega)]
      have HE2 := Lib.hid hE2
      clear hE2
      go_wp2
      go_ret
      exact ⟨_, es, rfl, hH, hv0, HN.out, HE2.out, hl⟩

end Go.Proofs.Ytncmfjncdhhjoaa
