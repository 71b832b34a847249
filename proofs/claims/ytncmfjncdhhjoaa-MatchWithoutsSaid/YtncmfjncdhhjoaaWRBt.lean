/- Joined texts. -/
import Derived.Test.YtncmfjncdhhjoaaMWo
import Derived.Test.YtncmfjncdhhjoaaWTbl
import Derived.Test.YtncmfjncdhhjoaaWRTot

/- The reference's best: all assignments are tried, the least first. -/
namespace Go.Proofs.Ytncmfjncdhhjoaa
open Go.RowKit

/-- What best leaves: the best one of those that were tried. -/
def RBPost (w : World) (n m : Nat) (c : Nat → Nat → Int) (V : (Nat → Nat) → Prop) (e : Ending) (w' : World) : Prop :=
  Below w.heap.size w w' ∧ ∃ (ad : Addr) (c' : Nat) (lt : List Int) (least : Int) (b : Bool),
    e = .returned (.tuple #[.slice (some ad) lt.length c', .int .i64 least, .bool b]) ∧ Ints w' (some ad) lt ∧ (b = true → IsAsg n m c lt) ∧ BestSo n m c V b (colOf lt) least
theorem colOf_snoc {l : List Int} {d k : Nat} (hl : l.length = d) : ∀ b, b < d + 1 → colOf (l ++ [(k : Int)]) b = upd (colOf l) d k b := by
  intro b hb
  subst hl
  by_cases e : b = l.length
  · subst e
    rw [upd_at]; unfold colOf
    simp [List.getD_eq_getElem?_getD]
  · rw [upd_ne e]; unfold colOf
    rw [List.getD_eq_getElem?_getD, List.getElem?_append_left (by omega), ← List.getD_eq_getElem?_getD]
theorem pos_snoc {l : List Int} {d k : Nat} (hl : l.length = d) (h : ∀ i, i < d → 0 ≤ l.getD i 0) : ∀ i, i < d + 1 → 0 ≤ (l ++ [(k : Int)]).getD i 0 := by
  intro i hi
  subst hl
  by_cases e : i = l.length
  · subst e; simp [List.getD_eq_getElem?_getD]
  · have := h i (by omega)
    rw [List.getD_eq_getElem?_getD, List.getElem?_append_left (by omega), ← List.getD_eq_getElem?_getD]
    exact this

set_option maxHeartbeats 8000000 in
set_option maxRecDepth 100000 in
theorem rbest_leaf (B cA n m : Nat) (A : Option Addr) (ls : List (List Int)) (h1 : 1 ≤ n) (h2 : n ≤ m) (h3 : m ≤ 64) (G : Good n m ls) (l1 lt : List Int) (a1 a2 : Addr) (c1 c2 L2 : Nat) (least : Int) (b : Bool) (w : World)
    (T : Tab B w A ls) (hB : B ≤ w.heap.size) (hl1 : l1.length = n) (hL2 : L2 = lt.length) (hI1 : Ints w (some a1) l1) (hI2 : Ints w (some a2) lt) (hp : ∀ i, i < n → 0 ≤ l1.getD i 0) (hA : b = true → IsAsg n m (cst ls) lt)
    (hS : BestSo n m (cst ls) (Bef n (colOf l1)) b (colOf lt) least) :
    Calls Try.prog 56 #[.slice A n cA, .slice (some a1) n c1, .slice (some a2) L2 c2, .int .i64 least, .bool b] w (RBPost w n m (cst ls) (Upto n (colOf l1))) := by
  have hto := refTotal_any B n m cA c1 n A (some a1) ls l1 w T G hI1 hl1.symm h1 h2 h3 (by omega)
  obtain ⟨i0, hi, hz0, hz1, hz2⟩ := info_parts infoI
  have hnI : ((n : Int) == (n : Int)) = true := by simp
  have HTO := Lib.hid hto
  have HS := Lib.hid hS
  have HA := Lib.hid hA
  have HI1 := Lib.hid hI1
  have HI2 := Lib.hid hI2
  have HL1 := Lib.hid hl1
  have HL2 := Lib.hid hL2
  have hna : ¬ IsAsg n m (cst ls) l1 → ¬ Asg n m (cst ls) (colOf l1) := fun h h' => h ⟨hl1, hp, h'⟩
  have HNA := Lib.hid hna
  clear hto hS hA hI1 hI2 hl1 hL2 hp hna T G
  have hleave : ∀ (w5 : World), Below w.heap.size w w5 → (¬ Asg n m (cst ls) (colOf l1) ∨ (b = true ∧ least ≤ costN (cst ls) (colOf l1) n)) → RBPost w n m (cst ls) (Upto n (colOf l1)) (.returned (.tuple #[.slice (some a2) L2 c2, .int .i64 least, .bool b])) w5 := fun w5 hl5 h =>
    ⟨hl5, a2, c2, lt, least, b, by rw [HL2.out], HI2.out.keep hl5, HA.out, HS.out.leave h⟩
  have HLV := Lib.hid hleave
  clear hleave
  go_enter Try.func56, Try.ntmps56
  go_wp2_with (fail)
  refine (HTO.out).mono ?_
  rintro e w5 ⟨hl5, ⟨hI, rfl⟩ | ⟨hI, rfl⟩⟩
  · have htake : (b = false ∨ costN (cst ls) (colOf l1) n < least) → BestSo n m (cst ls) (Upto n (colOf l1)) true (colOf l1) (costN (cst ls) (colOf l1) n) := fun h => HS.out.take hI.asg h
    have HTK := Lib.hid htake
    have HI := Lib.hid hI
    have hV5 := Vals.keep (Vals.keep HI1.out hl5) (below_new w5 (.cells #[] 3))
    have hb5 := hl5.trans ((below_new w5 (.cells #[] 3)).mono hl5.size)
    have HV5 := Lib.hid hV5
    have HO := Lib.hid (own_empty w5 3)
    clear htake hI hV5
    have HLV2 : Hid (b = true ∧ least ≤ costN (cst ls) (colOf l1) n → RBPost w n m (cst ls) (Upto n (colOf l1)) (.returned (.tuple #[.slice (some a2) L2 c2, .int .i64 least, .bool b])) w5) := Lib.hid (fun h => HLV.out w5 hl5 (.inr h))
    generalize costN (cst ls) (colOf l1) n = s at *
    by_cases hb : b = false ∨ s < least
    · have hfin : ∀ (v' : Value) (w1 : World), w1.ownsRow w5.heap.size 3 1 v' n (is l1) → (w5.alloc (.cells #[] 3)).grownBy w1 (Value.slice (some ⟨w5.heap.size, 0, none⟩) 0 0).ownBlock → v' ≠ .slice none 0 0 → RBPost w n m (cst ls) (Upto n (colOf l1)) (.returned (.tuple #[v', .int .i64 s, .bool true])) w1 := fun v' w1 hown hgr hne => by
        have hown2 : w1.ownsRow w5.heap.size 3 1 v' n (is l1) := by simpa using hown
        obtain ⟨g, cap, rfl, hv, _⟩ := own_written hown2 hne
        have hbw : Below w.heap.size w w1 := hb5.grown hgr hb5.size (by simp [Value.ownBlock]; exact hl5.size)
        exact ⟨hbw, ⟨g, 0, none⟩, cap, l1, s, true, rfl, hv, fun _ => HI.out, HTK.out hb⟩
      have HF := Lib.hid hfin
      clear hfin
      cases b with
      | false =>
        clear hb
        go_wp2_with (at_builtin
                     refine wpList_append_own _ rfl _ _ 23 rfl w5.heap.size 3 i0 (.int .i64 0) 1 8 Try.underlying23 hi hz0 hz1 hz2 rfl (by decide) _ _ _ rfl HO.out a1 n _ (is l1) rfl ?c1 (vals_cells HV5.out) (is_one _) ?c4 ?c5 (by simp) ?_)
        case c1 => rw [is_len, HL1.out]; omega
        case c4 => unfold maxLen; omega
        case c5 => omega
        intro v' w1 hown hgr hne
        have hf := HF.out v' w1 hown hgr (by simpa using hne)
        go_wp2
        go_ret3
        exact hf
      | true =>
        have hd : decide (s < least) = true := by
          rcases hb with hb | hb
          · cases hb
          · simpa using hb
        clear hb
        go_wp2_with (at_builtin
                     refine wpList_append_own _ rfl _ _ 23 rfl w5.heap.size 3 i0 (.int .i64 0) 1 8 Try.underlying23 hi hz0 hz1 hz2 rfl (by decide) _ _ _ rfl HO.out a1 n _ (is l1) rfl ?c1 (vals_cells HV5.out) (is_one _) ?c4 ?c5 (by simp) ?_)
        case c1 => rw [is_len, HL1.out]; omega
        case c4 => unfold maxLen; omega
        case c5 => omega
        intro v' w1 hown hgr hne
        have hf := HF.out v' w1 hown hgr (by simpa using hne)
        go_wp2
        go_ret3
        exact hf
    · cases b with
      | false => exact absurd (.inl rfl) hb
      | true =>
        have hd : decide (s < least) = false := by simp; omega
        have hf := HLV2.out ⟨rfl, by omega⟩
        clear hb
        go_wp2
        go_ret3
        exact hf
  · have hf := HLV.out w5 hl5 (.inl (HNA.out hI))
    clear hI
    go_wp2
    go_ret3
    exact hf
end Go.Proofs.Ytncmfjncdhhjoaa

/- The reference's best: the recursion, and Best. -/
namespace Go.Proofs.Ytncmfjncdhhjoaa
open Go.RowKit

set_option maxHeartbeats 16000000 in
set_option maxRecDepth 100000 in
theorem rbest_any (B cA n m : Nat) (A : Option Addr) (ls : List (List Int)) (h1 : 1 ≤ n) (h2 : n ≤ m) (h3 : m ≤ 64) (G : Good n m ls) : ∀ (K d : Nat) (l1 lt : List Int) (a1 a2 : Addr) (c1 c2 L2 : Nat) (least : Int) (b : Bool) (w : World),
    d + K = n → Tab B w A ls → B ≤ w.heap.size → l1.length = d → L2 = lt.length → Ints w (some a1) l1 → Ints w (some a2) lt → (∀ i, i < d → 0 ≤ l1.getD i 0) → (b = true → IsAsg n m (cst ls) lt) →
    BestSo n m (cst ls) (Bef d (colOf l1)) b (colOf lt) least →
    Calls Try.prog 56 #[.slice A n cA, .slice (some a1) d c1, .slice (some a2) L2 c2, .int .i64 least, .bool b] w (RBPost w n m (cst ls) (Upto d (colOf l1))) := by
  intro K
  induction K with
  | zero =>
    intro d l1 lt a1 a2 c1 c2 L2 least b w hd T hB hl1 hL2 hI1 hI2 hp hA hS
    obtain rfl : d = n := by omega
    exact rbest_leaf B cA d m A ls h1 h2 h3 G l1 lt a1 a2 c1 c2 L2 least b w T hB hl1 hL2 hI1 hI2 hp hA hS
  | succ K ih =>
    intro d l1 lt a1 a2 c1 c2 L2 least b w hdK T hB hl1 hL2 hI1 hI2 hp hA hS
    have hdn : d < n := by omega
    have hdI : (d : Int) < (n : Int) := by omega
    have hd64 : d ≤ 64 := by omega
    have hne : ((d : Int) == (n : Int)) = false := by simp; omega
    have hrow := fun (W : World) (hW : Below w.heap.size w W) (i : Nat) (hi : i < n) => G.at_ (T.keep (hW.mono hB)) hi
    have hTab := fun (W : World) (hW : Below w.heap.size w W) => T.keep (hW.mono hB)
    have hrec := fun (l1' lt : List Int) (a1 a2 : Addr) (c1 c2 L2 : Nat) (least : Int) (b : Bool) (W : World) (hW : Below w.heap.size w W) (e1 : l1'.length = d + 1) (e2 : L2 = lt.length) (e3 : Ints W (some a1) l1') (e4 : Ints W (some a2) lt) (e5 : ∀ i, i < d + 1 → 0 ≤ l1'.getD i 0) (e6 : b = true → IsAsg n m (cst ls) lt) (e7 : BestSo n m (cst ls) (Bef (d + 1) (colOf l1')) b (colOf lt) least) =>
      ih (d + 1) l1' lt a1 a2 c1 c2 L2 least b W (by omega) (hTab W hW) (Nat.le_trans hB hW.size) e1 e2 e3 e4 e5 e6 e7
    have HREC := Lib.hid hrec
    have HR := Lib.hid hrow
    have HG := Lib.hid G
    have HI1 := Lib.hid (fun (W : World) (hW : Below w.heap.size w W) => Vals.keep hI1 hW)
    have HI2 := Lib.hid hI2
    have HA := Lib.hid hA
    have HP := Lib.hid hp
    have HS := Lib.hid (hS.congr fun τ ht => bef_first)
    have HL1 := Lib.hid hl1
    have HL2 := Lib.hid hL2
    have HDK := Lib.hid hdK
    obtain ⟨i0, hi0, hz0, hz1, hz2⟩ := info_parts infoI
    clear hrec hrow hTab hI1 hI2 hA hp hS hl1 hL2 hdK T G ih
    go_enter Try.func56, Try.ntmps56
    go_wp2_with (fail)
    go_loopw [2, 3, 4, 15, 16, 17, 18] (fun v2 v3 v4 v15 _ _ _ wr => ∃ (k : Nat) (ad : Addr) (c' L' : Nat) (lt' : List Int) (least' : Int) (b' : Bool), k ≤ m ∧ v15 = .int .i64 (k : Int) ∧ v2 = .slice (some ad) L' c' ∧ v3 = .int .i64 least' ∧ v4 = .bool b' ∧ Hid (L' = lt'.length) ∧ Hid (Ints wr (some ad) lt') ∧ Hid (b' = true → IsAsg n m (cst ls) lt') ∧ Hid (BestSo n m (cst ls) (Bef (d + 1) (upd (colOf l1) d k)) b' (colOf lt') least') ∧ Below w.heap.size w wr) (fun _ _ _ v15 _ _ _ _ => m - (intOf v15).toNat)
    case atStart => exact ⟨0, a2, c2, L2, lt, least, b, Nat.zero_le _, rfl, rfl, rfl, rfl, HL2, HI2, HA, HS, Below.refl _ _⟩
    case round =>
      clear HL2 HI2 HA HS
      obtain ⟨k, ad, c', L', lt', least', b', hk, rfl, rfl, rfl, rfl, HL2, HI2, HA, HS, hl⟩ := hrel
      obtain ⟨g, off, A0, ci0, rfl, hg, hc0, _⟩ := HR.out wr hl 0 (by omega)
      have hc0' : wr.cell? ⟨g, off, none⟩ = some (.slice A0 m ci0) := hc0
      by_cases hlk : k < m
      · have hkI : (k : Int) < (m : Int) := by omega
        obtain ⟨g', off', Ai, ci, eA, _, hci, hcell⟩ := HR.out wr hl d hdn
        injection eA with eA
        injection eA with e1 e2
        subst e1 e2
        obtain ⟨gc, offc, rfl, hgc, hcc⟩ := hcell (by omega)
        have hck := hcc k hlk
        have hrg := (HG.out.rng d k hdn hlk).1
        have HI1' := Lib.hid (HI1.out wr hl)
        have hbad : (cst ls d k = -1 ∨ ∃ i, i < d ∧ l1.getD i 0 = (k : Int)) → BestSo n m (cst ls) (Bef (d + 1) (upd (colOf l1) d (k + 1))) b' (colOf lt') least' := fun h => HS.out.congr fun τ ht => bef_skip hdn ht (by
          rcases h with h | ⟨i, hi, e⟩
          · exact .inl h
          · exact .inr ⟨i, hi, by unfold colOf; rw [e]; simp⟩)
        have HBAD := Lib.hid hbad
        clear hcc hcell hbad
        generalize hz : cst ls d k = z at *
        have HZ := Lib.hid hz
        clear hz
        obtain ⟨fr, hfr⟩ : ∃ fr, decide (z ≥ 0) = fr := ⟨_, rfl⟩
        have hfr' : decide (0 ≤ z) = fr := hfr
        have HFR := Lib.hid hfr
        go_wp2_with (fail)
        clear hfr hfr'
        go_loop [16, 17] (fun s t => ∃ (i : Nat) (q : Bool), i ≤ d ∧ t = .int .i64 (i : Int) ∧ s = .bool q ∧ Hid (q = true ↔ (fr = true ∧ ∀ j, j < i → l1.getD j 0 ≠ (k : Int)))) (fun _ t => d - (intOf t).toNat)
        case atStart => exact ⟨0, fr, Nat.zero_le _, rfl, rfl, Lib.hid (by simp)⟩
        case round =>
          obtain ⟨i, q, hi, rfl, rfl, HQ⟩ := hrel
          by_cases hli : i < d
          · have hiI : (i : Int) < (d : Int) := by omega
            obtain ⟨g3, off3, x, e3, hg3, hx, hcx⟩ := Ints.at_ HI1'.out (i := i) (by have := HL1.out; omega)
            injection e3 with e3
            subst e3
            have hgx : l1.getD i 0 = x := by rw [List.getD_eq_getElem?_getD, hx]; rfl
            have HN : Hid ((q && (x != (k : Int))) = true ↔ (fr = true ∧ ∀ j, j < i + 1 → l1.getD j 0 ≠ (k : Int))) := Lib.hid (by
              rw [Bool.and_eq_true, HQ.out]
              constructor
              · rintro ⟨⟨e1, e2⟩, e3⟩
                refine ⟨e1, fun j hj => ?_⟩
                by_cases e : j = i
                · subst e; rw [hgx]; simpa using e3
                · exact e2 j (by omega)
              · rintro ⟨e1, e2⟩
                exact ⟨⟨e1, fun j hj => e2 j (by omega)⟩, by have := e2 i (by omega); rw [hgx] at this; simpa using this⟩)
            clear hx hgx
            generalize hxk : (x != (k : Int)) = e at *
            have HXK := Lib.hid hxk
            cases q <;>
              · go_wp2_with (fail)
                go_round
                case rel => exact ⟨i + 1, _, by omega, by go_num, rfl, by simpa using HN⟩
                case measure => simp [intOf]; omega
          · obtain rfl : i = d := by omega
            cases q with
            | false =>
              have HB2 := Lib.hid (HBAD.out (by
                have h := HQ.out
                refine Classical.byContradiction fun hn => ?_
                have hz0 : ¬ z = -1 := fun e => hn (.inl e)
                have hall : ∀ j, j < i → l1.getD j 0 ≠ (k : Int) := fun j hj e => hn (.inr ⟨j, hj, e⟩)
                have := h.2 ⟨by rw [← HFR.out]; simp; omega, hall⟩
                cases this))
              clear HBAD HQ hrg
              go_wp2_with (fail)
              go_roundw
              case rel => exact ⟨k + 1, ad, c', L', lt', least', b', by omega, by go_num, rfl, rfl, rfl, HL2, HI2, HA, HB2, hl⟩
              case measure => simp [intOf]; omega
            | true =>
              clear HBAD HQ hrg
              have hbA := below_new wr (.cells #[] 3)
              have HV := Lib.hid (Vals.keep HI1'.out hbA)
              have HO := Lib.hid (own_empty wr 3)
              go_wp2_with (at_builtin
                           refine wpList_append_own _ rfl _ _ 23 rfl wr.heap.size 3 i0 (.int .i64 0) 1 8 Try.underlying23 hi0 hz0 hz1 hz2 rfl (by decide) _ _ _ rfl HO.out a1 i _ (is l1) rfl ?c1 (vals_cells HV.out) (is_one _) ?c4 ?c5 (by simp) ?_)
              case c1 => rw [is_len, HL1.out]
              case c4 => unfold maxLen; omega
              case c5 => omega
              intro v' w1 hown hgr hne'
              have hown2 : w1.ownsRow wr.heap.size 3 1 v' i (is l1) := by simpa using hown
              have hnv : v' ≠ .slice none 0 0 := by simpa using hne'
              have hb1 : Below wr.heap.size wr w1 := hbA.grown hgr hbA.size (by simp [Value.ownBlock])
              obtain ⟨g1, cap1, he1, -, -, -, hg1⟩ := own_written hown2 hnv
              rw [HL1.out] at he1
              subst he1
              have HO2 := Lib.hid (hown2.alloc (.cells #[.int .i64 (k : Int)] 3))
              have HB1 := Lib.hid hb1
              clear hown hgr hne' hown2 hnv hb1 hbA
              go_wp2_with (at_builtin
                           refine wpList_append_own _ rfl _ _ 23 rfl wr.heap.size 3 i0 (.int .i64 0) 1 8 Try.underlying23 hi0 hz0 hz1 hz2 rfl (by decide) (Value.slice (some ⟨g1, 0, none⟩) i cap1) i (is l1) rfl HO2.out ⟨w1.heap.size, 0, none⟩ 1 _ [.int .i64 (k : Int)] rfl rfl (cell_one_new _ _ _) (by simp [Value.oneCell']) ?c4 ?c5 ?c6 ?_)
              case c4 => unfold maxLen; omega
              case c5 => omega
              case c6 => have := HB1.out.size; simp; omega
              intro v'' w2 hown hgr hne'
              have hown2 : w2.ownsRow wr.heap.size 3 1 v'' (i + 1) (is (l1 ++ [(k : Int)])) := by
                rw [is_append]; exact hown
              have hnv : v'' ≠ .slice none 0 0 := by simpa using hne'
              have hb2 : Below wr.heap.size wr w2 := (HB1.out.trans ((below_new w1 _).mono HB1.out.size)).grown hgr (by have := HB1.out.size; simp; omega) (by
                intro k hk
                simp only [Value.ownBlock, Option.some.injEq] at hk
                subst hk
                have := (HO2.out.lt g1 rfl).1
                exact this)
              obtain ⟨g2, cap2, he2, hv2, -, -, -⟩ := own_written hown2 hnv
              have hl1' : (l1 ++ [(k : Int)]).length = i + 1 := by rw [List.length_append, HL1.out]; rfl
              rw [hl1'] at he2
              subst he2
              have hl2 := hl.trans (hb2.mono hl.size)
              have HCALL := Lib.hid (HREC.out (l1 ++ [(k : Int)]) lt' ⟨g2, 0, none⟩ ad cap2 c' L' least' b' w2 hl2 hl1' HL2.out hv2 (HI2.out.keep hb2) (pos_snoc HL1.out HP.out) HA.out (HS.out.congr fun τ ht => (bef_congr (colOf_snoc HL1.out)).symm))
              clear hown hgr hne' hown2 hnv hv2 hb2 HO2 HO HV HB1 hl1' hg1
              go_wp2_with (fail)
              refine (HCALL.out).mono ?_
              rintro e w3 ⟨hl3, ad3, c3, lt3, least3, b3, rfl, hI3, hA3, hS3⟩
              have HI3 := Lib.hid hI3
              have HA3 := Lib.hid hA3
              have HS3 := Lib.hid (hS3.congr fun τ ht => ((upto_congr (colOf_snoc HL1.out)).trans upto_next))
              have hl4 := hl2.trans (hl3.mono hl2.size)
              obtain ⟨L3, hL3⟩ : ∃ L3, L3 = lt3.length := ⟨_, rfl⟩
              rw [← hL3]
              have HL3 := Lib.hid hL3
              clear hI3 hA3 hS3 HCALL hL3
              go_wp2_with (fail)
              go_roundw
              case rel => exact ⟨k + 1, ad3, c3, L3, lt3, least3, b3, by omega, by go_num, rfl, rfl, rfl, HL3, HI3, HA3, HS3, hl4⟩
              case measure => simp [intOf]; omega
      · obtain rfl : k = m := by omega
        have hf : RBPost w n k (cst ls) (Upto d (colOf l1)) (.returned (.tuple #[.slice (some ad) L' c', .int .i64 least', .bool b'])) wr :=
          ⟨hl, ad, c', lt', least', b', by rw [HL2.out], HI2.out, HA.out, HS.out.congr fun τ ht => bef_last hdn ht⟩
        have HF := Lib.hid hf
        clear hf
        go_wp2
        go_ret3
        exact HF.out

/-- What the reference's Best leaves, of a table of n rows, also of none. -/
def RBestPost (w : World) (n m : Nat) (c : Nat → Nat → Int) (e : Ending) (w' : World) : Prop :=
  Below w.heap.size w w' ∧ ∃ (ad : Addr) (c' : Nat) (lt : List Int) (least : Int) (b : Bool),
    e = .returned (.tuple #[.slice (some ad) lt.length c', .int .i64 least, .bool b]) ∧ Ints w' (some ad) lt ∧
    ((b = true ∧ IsAsg n m c lt ∧ LexMin n m c (colOf lt) ∧ costN c (colOf lt) n = least) ∨ (b = false ∧ ∀ τ, ¬ Asg n m c τ))
set_option maxHeartbeats 4000000 in
set_option maxRecDepth 100000 in
theorem refBest_any (B cA n m : Nat) (A : Option Addr) (ls : List (List Int)) (h2 : n ≤ m) (h3 : m ≤ 64) (G : Good n m ls) (w : World) (T : Tab B w A ls) (hB : B ≤ w.heap.size) :
    Calls Try.prog 30 #[.slice A n cA] w (RBestPost w n m (cst ls)) := by
  by_cases h0 : n = 0
  · subst h0
    have hr : ∀ (H : Nat), RBestPost w 0 m (cst ls) (.returned (.tuple #[.slice (some ⟨H, 0, none⟩) 0 0, .int .i64 0, .bool true])) (w.alloc (.cells #[] 3)) := fun H =>
      ⟨below_new w _, ⟨H, 0, none⟩, 0, [], 0, true, rfl, Vals.nil, .inl ⟨rfl, ⟨rfl, fun i hi => by omega, ⟨fun i hi => by omega, fun i j hi => by omega⟩⟩,
        ⟨⟨fun i hi => by omega, fun i j hi => by omega⟩, fun τ _ => Int.le_refl _, fun τ _ _ i hi => by omega⟩, rfl⟩⟩
    have HR := Lib.hid hr
    clear hr T G
    go_enter Try.func30, Try.ntmps30
    go_wp2_with (fail)
    go_ret3
    exact HR.out _
  · have hne : ((n : Int) == 0) = false := by simp; omega
    have hb2 : Below w.heap.size w ((w.alloc (.cells #[] 3)).alloc (.cells #[] 3)) := ((Below.refl _ _).alloc (Nat.le_refl _) _).alloc (by simp) _
    have hc := fun (a1 a2 : Addr) => rbest_any B cA n m A ls (by omega) h2 h3 G n 0 [] [] a1 a2 0 0 0 0 false ((w.alloc (.cells #[] 3)).alloc (.cells #[] 3)) (by omega) (T.keep (hb2.mono hB)) (Nat.le_trans hB hb2.size) rfl rfl Vals.nil Vals.nil (fun i hi => by omega) (fun h => by cases h) (bef_start _ _ _)
    have HC := Lib.hid hc
    have HB2 := Lib.hid hb2
    clear hc hb2 T G
    go_enter Try.func30, Try.ntmps30
    go_wp2_with (fail)
    refine (HC.out _ _).mono ?_
    rintro e w3 ⟨hl3, ad3, c3, lt3, least3, b3, rfl, hI3, hA3, hS3⟩
    have hf : RBestPost w n m (cst ls) (.returned (.tuple #[.slice (some ad3) lt3.length c3, .int .i64 least3, .bool b3])) w3 := by
      refine ⟨HB2.out.trans (hl3.mono HB2.out.size), ad3, c3, lt3, least3, b3, rfl, hI3, ?_⟩
      cases b3 with
      | true => exact .inl ⟨rfl, hA3 rfl, hS3.lexMin.1, hS3.lexMin.2⟩
      | false => exact .inr ⟨rfl, fun τ => hS3.nothing τ⟩
    have HF := Lib.hid hf
    clear hf hI3 hA3 hS3
    go_wp2_with (fail)
    go_ret3
    exact HF.out
end Go.Proofs.Ytncmfjncdhhjoaa

