/- fromTop: what ties demand of the distances from a top. -/
import Derived.Test.YtpaemlkikkcjiaaWReg
import Derived.Test.YtpaemlkikkcjiaaWOrd
import Derived.Deep.CutRange
namespace Go.Proofs.Ytpaemlkikkcjiaa
open Go.RowKit

def fT (f : Nat → T3) (n : Nat) : List Value := (List.range n).flatMap fun j => tieC (f j)
theorem fT_len (f : Nat → T3) (n : Nat) : (fT f n).length = n * 3 := by unfold fT; rw [flat_len (fun j => tieC_len (f j))]; simp
theorem fT_zero (n : Nat) : fT (fun _ => ⟨0, 0, 0⟩) n = List.replicate (n * 3) (.int .i64 0) := by
  unfold fT
  induction n with
  | zero => rfl
  | succ n ih => rw [List.range_succ, List.flatMap_append, ih, Nat.succ_mul, ← List.replicate_append_replicate]; rfl
theorem fT_at (f : Nat → T3) {n i j : Nat} (h : i < n) (hj : j < 3) : (fT f n)[i * 3 + j]? = (tieC (f i))[j]? := flat_at (fun j => tieC_len (f j)) (range_at h) hj
theorem fT_congr {f f' : Nat → T3} {n : Nat} (h : ∀ j, j < n → f j = f' j) : fT f n = fT f' n := by
  unfold fT List.flatMap
  congr 1
  apply List.map_congr_left
  intro a ha
  rw [h a (List.mem_range.1 ha)]
theorem fT_list (l : List T3) (d : T3) : fT (fun j => l.getD j d) l.length = tc l := range_flat tieC l d
theorem blk_tie {W : World} {g n i : Nat} {f : Nat → T3} (h : Blk 39 W g (fT f n)) (hi : i < n) (t : T3) :
    Blk 39 (((W.setCell ⟨g, i * 3, none⟩ (.int .i64 t.a)).setCell ⟨g, i * 3 + 1, none⟩ (.int .i64 t.b)).setCell ⟨g, i * 3 + 2, none⟩ (.int .i64 t.l)) g (fT (upd f i t) n) := by
  have h1 := ((h.set (i := i * 3) (v := .int .i64 t.a)).set (i := i * 3 + 1) (v := .int .i64 t.b)).set (i := i * 3 + 2) (v := .int .i64 t.l)
  have e : (((fT f n).set (i * 3) (.int .i64 t.a)).set (i * 3 + 1) (.int .i64 t.b)).set (i * 3 + 2) (.int .i64 t.l) = fT (upd f i t) n := by
    have s1 : (fT f n).set (i * 3 + 0) (.int .i64 t.a) = fT (upd f i ⟨t.a, (f i).b, (f i).l⟩) n :=
      flat_set (by omega) (fun j => tieC_len (f j)) (fun j => tieC_len _) hi (by omega) (by simp [upd, tieC]) (fun x hx => by simp [upd, hx])
    have s2 : (fT (upd f i ⟨t.a, (f i).b, (f i).l⟩) n).set (i * 3 + 1) (.int .i64 t.b) = fT (upd f i ⟨t.a, t.b, (f i).l⟩) n :=
      flat_set (by omega) (fun j => tieC_len _) (fun j => tieC_len _) hi (by omega) (by simp [upd, tieC]) (fun x hx => by simp [upd, hx])
    have s3 : (fT (upd f i ⟨t.a, t.b, (f i).l⟩) n).set (i * 3 + 2) (.int .i64 t.l) = fT (upd f i t) n :=
      flat_set (by omega) (fun j => tieC_len _) (fun j => tieC_len _) hi (by omega) (by simp [upd, tieC]) (fun x hx => by simp [upd, hx])
    rw [Nat.add_zero] at s1
    rw [s1, s2, s3]
  rw [← e]; exact h1
theorem blk_tie2 {W : World} {g n i : Nat} {f : Nat → T3} {t : T3} (h : Blk 39 W g (fT (upd f i t) n)) (hi : i < n) (l : Int) :
    Blk 39 (W.setCell ⟨g, i * 3 + 2, none⟩ (.int .i64 l)) g (fT (upd f i ⟨t.a, t.b, l⟩) n) := by
  have h1 := h.set (i := i * 3 + 2) (v := .int .i64 l)
  have s3 : (fT (upd f i t) n).set (i * 3 + 2) (.int .i64 l) = fT (upd f i ⟨t.a, t.b, l⟩) n :=
    flat_set (by omega) (fun j => tieC_len _) (fun j => tieC_len _) hi (by omega) (by simp [upd, tieC]) (fun x hx => by simp [upd, hx])
  rw [← s3]; exact h1
theorem makeT (n : Nat) (h : n ≤ 100000) (w : World) : (Instr.makeSlice 22 (.int .i64 (n : Int)) (.int .i64 (n : Int))).run Try.prog w = .ok (.slice (some ⟨w.heap.size, 0, none⟩) n n) (w.alloc (.cells (Array.replicate (n * 3) (.int .i64 0)) 39)) :=
  run_make_same 22 39 zTie (.int .i64 0) 3 24 Try.underlying22 infoTie rfl (by omega) n (n * 3) rfl (by omega) (by omega) w
set_option maxHeartbeats 4000000 in
set_option maxRecDepth 100000 in
theorem fromTop_any (ad : Addr) (c L : Nat) (ts : List T3) (top : Int) (w : World) (hA : TiesAt w (some ad) ts) (hL : L = ts.length) (hLs : L ≤ 1000) (h0 : 0 ≤ top) (h1 : top ≤ 1000000) (hl : ∀ t, t ∈ ts → -1000000 ≤ t.l ∧ t.l ≤ 1000000) :
    Calls Try.prog 62 #[.slice (some ad) L c, .int .i64 top] w fun e w' => ∃ g, e = .returned (.slice (some ⟨g, 0, none⟩) L L) ∧ w.heap.size ≤ g ∧ Blk 39 w' g (tc (ts.map (turnT top))) ∧ Below w.heap.size w w' := by
  have hmk := fun W => makeT L (by omega) W
  have HA := Lib.hid hA
  have HL := Lib.hid hL
  have HLL := Lib.hid hl
  obtain ⟨f, hf⟩ : ∃ f : Nat → T3, f = fun j => (ts.map (turnT top)).getD j ⟨0, 0, 0⟩ := ⟨_, rfl⟩
  have hfa : ∀ i t, ts[i]? = some t → f i = turnT top t := fun i t h => by rw [hf]; simp [h]
  have HFA := Lib.hid hfa
  have hend : fT f L = tc (ts.map (turnT top)) := by
    have := fT_list (ts.map (turnT top)) ⟨0, 0, 0⟩
    rw [List.length_map, ← hL] at this
    rw [hf]; exact this
  have HEND := Lib.hid hend
  clear hA hL hl hfa hend hf
  go_enter Try.func62, Try.ntmps62
  go_wp2_with (fail)
  have hb0 : Blk 39 (w.alloc (.cells (Array.replicate (L * 3) (.int .i64 0)) 39)) w.heap.size (fT (fun j => if j < 0 then f j else ⟨0, 0, 0⟩) L) := by
    have h2 : fT (fun j => if j < 0 then f j else ⟨0, 0, 0⟩) L = List.replicate (L * 3) (.int .i64 0) := by
      rw [← fT_zero]; exact fT_congr (fun j _ => by simp)
    rw [h2]
    have := Blk.new w 39 (List.replicate (L * 3) (Value.int .i64 0))
    simpa using this
  have hbn := below_new w (.cells (Array.replicate (L * 3) (.int .i64 0)) 39)
  obtain ⟨g, hg⟩ : ∃ g, g = w.heap.size := ⟨_, rfl⟩
  rw [← hg] at hb0 ⊢
  have HG := Lib.hid hg
  have HB0 := Lib.hid hb0
  have HBN := Lib.hid hbn
  clear hg hb0 hbn
  generalize w.alloc (.cells (Array.replicate (L * 3) (.int .i64 0)) 39) = w0 at *
  go_loopw [6, 7, 13] (fun _ _ t wr => ∃ i : Nat, i ≤ L ∧ t = .int .i64 (i : Int) ∧ Blk 39 wr g (fT (fun j => if j < i then f j else ⟨0, 0, 0⟩) L) ∧ Below w.heap.size w wr) (fun _ _ t _ => L - (intOf t).toNat)
  case atStart => exact ⟨0, Nat.zero_le _, rfl, HB0.out, HBN.out⟩
  case round =>
    obtain ⟨i, hi, rfl, hB, hb⟩ := hrel
    clear HB0 HBN
    by_cases hlt : i < L
    · obtain ⟨t, ht⟩ : ∃ t, ts[i]? = some t := ⟨ts[i]'(by have := HL.out; omega), List.getElem?_eq_getElem _⟩
      have hlb := HLL.out t (List.mem_of_getElem? ht)
      have hft := HFA.out i t ht
      obtain ⟨g1, off, e1, hg1, c0, c1, c2⟩ := ((HA.out).keep hb).at_ ht
      injection e1 with e1
      subst e1
      have hlt2 : (i : Int) < (L : Int) := by omega
      have hgw : w.heap.size ≤ g := by have := HG.out; omega
      have HFT := Lib.hid hft
      obtain ⟨ta, tb, tl⟩ := t
      simp only at hlb c0 c1 c2
      clear ht hft
      go_upto_region 5 with (fail)
      have hq : Blk 39 (wr.alloc (.cells #[.int .i64 ta, .int .i64 tb, .int .i64 tl] 39)) wr.heap.size [.int .i64 ta, .int .i64 tb, .int .i64 tl] := Blk.new wr 39 [_, _, _]
      have hbl := below_new wr (.cells #[.int .i64 ta, .int .i64 tb, .int .i64 tl] 39)
      have hb2 := below_on hb hb.size hbl
      have hB2 := hB.keep hbl
      have hqg : wr.heap.size ≠ g := by have := hB.lt; omega
      clear hB hb hbl c0 c1 c2
      generalize wr.alloc (.cells #[.int .i64 ta, .int .i64 tb, .int .i64 tl] 39) = V at *
      generalize wr.heap.size = q at *
      have e0 : V.cell? ⟨q, 0, none⟩ = some (.int .i64 ta) := hq.cell 0
      have e1 : V.cell? ⟨q, 1, none⟩ = some (.int .i64 tb) := hq.cell 1
      have e2 : V.cell? ⟨q, 2, none⟩ = some (.int .i64 tl) := hq.cell 2
      have k0 : V.cell? ⟨g, i * 3, none⟩ = some (.int .i64 0) := by rw [hB2.cell]; have := fT_at (fun j => if j < i then f j else ⟨0, 0, 0⟩) hlt (j := 0) (by omega); simpa [tieC] using this
      have k1 : V.cell? ⟨g, i * 3 + 1, none⟩ = some (.int .i64 0) := by rw [hB2.cell]; have := fT_at (fun j => if j < i then f j else ⟨0, 0, 0⟩) hlt (j := 1) (by omega); simpa [tieC] using this
      have k2 : V.cell? ⟨g, i * 3 + 2, none⟩ = some (.int .i64 0) := by rw [hB2.cell]; have := fT_at (fun j => if j < i then f j else ⟨0, 0, 0⟩) hlt (j := 2) (by omega); simpa [tieC] using this
      have fz := hB2.frozen
      have hB3 := blk_tie hB2 hlt ⟨tb, ta, tl⟩
      have hb3 := below_set (below_set (below_set hb2 hgw (i := i * 3) (.int .i64 tb)) hgw (i := i * 3 + 1) (.int .i64 ta)) hgw (i := i * 3 + 2) (.int .i64 tl)
      have hq3 := ((hq.setOther (a := ⟨g, i * 3, none⟩) hqg (.int .i64 tb)).setOther (a := ⟨g, i * 3 + 1, none⟩) hqg (.int .i64 ta)).setOther (a := ⟨g, i * 3 + 2, none⟩) hqg (.int .i64 tl)
      have HB3 := Lib.hid hB3
      have HBL := Lib.hid hb3
      have HQ3 := Lib.hid hq3
      clear hB3 hb3 hq3 hB2 hb2 hq
      go_upto_region 6 with (fail)
      clear k0 k1 k2 e0 e1 e2 fz
      generalize ((V.setCell ⟨g, i * 3, none⟩ (.int .i64 tb)).setCell ⟨g, i * 3 + 1, none⟩ (.int .i64 ta)).setCell ⟨g, i * 3 + 2, none⟩ (.int .i64 tl) = V3 at *
      obtain ⟨l1, hl1⟩ : ∃ l1, l1 = tl - (if ta = -1 then top else 0) := ⟨_, rfl⟩
      have hl1b : -2000000 ≤ l1 ∧ l1 ≤ 1000000 := by rw [hl1]; split <;> omega
      have HL1 := Lib.hid hl1
      clear hl1
      have e0 : V3.cell? ⟨q, 0, none⟩ = some (.int .i64 ta) := HQ3.out.cell 0
      have k2 : V3.cell? ⟨g, i * 3 + 2, none⟩ = some (.int .i64 tl) := by rw [HB3.out.cell]; have := fT_at (upd (fun j => if j < i then f j else ⟨0, 0, 0⟩) i ⟨tb, ta, tl⟩) hlt (j := 2) (by omega); rw [this, upd_at]; rfl
      have fz := HB3.out.frozen
      go_upto_if 30 with (fail)
      go_cut [] from 14 to 52 (fun ww => Blk 39 ww g (fT (upd (fun j => if j < i then f j else ⟨0, 0, 0⟩) i ⟨tb, ta, l1⟩) L) ∧ Below w.heap.size w ww ∧ Blk 39 ww q [.int .i64 ta, .int .i64 tb, .int .i64 tl])
      case first =>
        by_cases ha : ta = -1
        · have hb1 : (ta == -1) = true := by simpa using ha
          have he : l1 = tl - top := by rw [HL1.out, if_pos ha]
          have hw : IntKind.i64.wrap (tl - top) = tl - top := wrapI (by omega) (by omega)
          have HE := Lib.hid he
          clear he ha
          go_wp2_with (fail)
          go_meet
          case rel => exact ⟨by rw [HE.out]; exact blk_tie2 HB3.out hlt _, below_set HBL.out hgw _, HQ3.out.setOther (a := ⟨g, i * 3 + 2, none⟩) hqg _⟩
        · have hb1 : (ta == -1) = false := by simpa using ha
          have he : l1 = tl := by rw [HL1.out, if_neg ha]; omega
          have HE := Lib.hid he
          clear he ha
          go_wp2_with (fail)
          go_meet
          case rel => exact ⟨by rw [HE.out]; exact HB3.out, HBL.out, HQ3.out⟩
      case rest =>
      obtain ⟨hB4, hb4, hq4⟩ := hcut
      clear e0 k2 fz HB3 HBL HQ3
      have e1 : wc.cell? ⟨q, 1, none⟩ = some (.int .i64 tb) := hq4.cell 1
      have k2 : wc.cell? ⟨g, i * 3 + 2, none⟩ = some (.int .i64 l1) := by rw [hB4.cell]; have := fT_at (upd (fun j => if j < i then f j else ⟨0, 0, 0⟩) i ⟨tb, ta, l1⟩) hlt (j := 2) (by omega); rw [this, upd_at]; rfl
      have fz := hB4.frozen
      have hnext : ∀ x, x = f i → (fT (upd (fun j => if j < i then f j else ⟨0, 0, 0⟩) i x) L) = fT (fun j => if j < i + 1 then f j else ⟨0, 0, 0⟩) L := fun x hx => fT_congr fun j _ => by
        by_cases hj : j = i
        · rw [hj, upd_at, if_pos (by omega), hx]
        · rw [upd_ne hj]
          by_cases h2 : j < i
          · rw [if_pos h2, if_pos (by omega)]
          · rw [if_neg h2, if_neg (by omega)]
      have HNX := Lib.hid hnext
      have HB4 := Lib.hid hB4
      have HBL := Lib.hid hb4
      clear hnext hB4 hb4 hq4
      by_cases ha : tb = -1
      · have hb1 : (tb == -1) = true := by simpa using ha
        have hw : IntKind.i64.wrap (l1 + top) = l1 + top := wrapI (by omega) (by omega)
        have he : (⟨tb, ta, l1 + top⟩ : T3) = f i := by rw [HFT.out, turnT]; simp only; rw [HL1.out, if_pos ha]
        have HE := Lib.hid he
        clear he ha
        go_wp2_with (fail)
        go_roundw
        case rel => exact ⟨i + 1, by omega, by go_num, by rw [← HNX.out _ HE.out]; exact blk_tie2 HB4.out hlt _, below_set HBL.out hgw _⟩
        case measure => simp [intOf]; omega
      · have hb1 : (tb == -1) = false := by simpa using ha
        have he : (⟨tb, ta, l1⟩ : T3) = f i := by rw [HFT.out, turnT]; simp only; rw [HL1.out, if_neg ha]; simp
        have HE := Lib.hid he
        clear he ha
        go_wp2_with (fail)
        go_roundw
        case rel => exact ⟨i + 1, by omega, by go_num, by rw [← HNX.out _ HE.out]; exact HB4.out, HBL.out⟩
        case measure => simp [intOf]; omega
    · obtain rfl : i = L := by omega
      have hfin : fT (fun j => if j < i then f j else ⟨0, 0, 0⟩) i = tc (ts.map (turnT top)) := by
        rw [← HEND.out]; exact fT_congr (fun j hj => by simp [hj])
      rw [hfin] at hB
      have HB := Lib.hid hB
      clear hB hfin
      go_wp2
      go_ret
      exact ⟨g, rfl, by have := HG.out; omega, HB.out, hb⟩
end Go.Proofs.Ytpaemlkikkcjiaa
