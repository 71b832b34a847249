/- The reference's Most: of any rows, how many can have columns at the same time. -/
import Derived.Test.YtncmfjncdhhjoaaWFnd
import Derived.Test.YtncmfjncdhhjoaaMMst
import Derived.Deep.AppendLies
import Derived.Deep.RegionHeldLaw
import Derived.Deep.CutRange
namespace Go.Proofs.Ytncmfjncdhhjoaa
open Go.RowKit

/-- The first i of some rows have looked for columns; c of them have one. -/
inductive MstR (m : Nat) (may : Nat → Nat → Bool) (ρ : Nat → Nat) : Nat → (Nat → Int) → Nat → Prop
  | zero : MstR m may ρ 0 (fun _ => -1) 0
  | hit {i c : Nat} {o o' : Nat → Int} {s : Nat → Bool} : MstR m may ρ i o c → Room m may (ρ i) 0 o (fun _ => false) true o' s → MstR m may ρ (i + 1) o' (c + 1)
  | miss {i c : Nat} {o : Nat → Int} {s : Nat → Bool} : MstR m may ρ i o c → Room m may (ρ i) 0 o (fun _ => false) false o s → MstR m may ρ (i + 1) o c
theorem MstR.id {m : Nat} {may : Nat → Nat → Bool} {ρ : Nat → Nat} {i c : Nat} {o : Nat → Int} (h : MstR m may ρ i o c) : (∀ j, j < i → ρ j = j) → Mst m may i o c := by
  induction h with
  | zero => intro _; exact Mst.zero
  | hit h R ih =>
    intro hr
    rw [hr _ (Nat.lt_succ_self _)] at R
    exact Mst.hit (ih fun j hj => hr j (by omega)) R
  | miss h R ih =>
    intro hr
    rw [hr _ (Nat.lt_succ_self _)] at R
    exact Mst.miss (ih fun j hj => hr j (by omega)) R
theorem MstR.dom {m : Nat} {may : Nat → Nat → Bool} {ρ : Nat → Nat} {i c : Nat} {o : Nat → Int} (h : MstR m may ρ i o c) : ∀ j, j < m → -1 ≤ o j := by
  induction h with
  | zero => intro j _; show (-1 : Int) ≤ -1; omega
  | hit h R ih => exact R.dom ih
  | miss h R ih => exact ih
theorem MstR.le {m : Nat} {may : Nat → Nat → Bool} {ρ : Nat → Nat} {i c : Nat} {o : Nat → Int} (h : MstR m may ρ i o c) : c ≤ i := by
  induction h with
  | zero => exact Nat.le_refl _
  | hit h R ih => omega
  | miss h R ih => omega
theorem MstR.own {m : Nat} {may : Nat → Nat → Bool} {ρ : Nat → Nat} {i c : Nat} {o : Nat → Int} (h : MstR m may ρ i o c) : (∀ a b, a < i → b < i → ρ a = ρ b → a = b) → Inj m o ∧ ∀ q, Has m o q → ∃ j, j < i ∧ q = ρ j := by
  induction h with
  | zero =>
    intro _
    refine ⟨fun i j _ _ _ h => ?_, fun q ⟨j, _, e⟩ => ?_⟩
    · (try dsimp only at h); omega
    · (try dsimp only at e); omega
  | hit h R ih =>
    rename_i i c o o' s
    intro hinj
    obtain ⟨h1, h2⟩ := ih (fun a b ha hb => hinj a b (by omega) (by omega))
    have A := R.found h1 (fun hh => by
      obtain ⟨j, hj, e⟩ := h2 _ hh
      have := hinj i j (by omega) (by omega) e
      omega)
    refine ⟨A.inj, fun q hq => ?_⟩
    rcases (A.rows q).1 hq with h3 | rfl
    · obtain ⟨j, hj, e⟩ := h2 q h3
      exact ⟨j, by omega, e⟩
    · exact ⟨i, by omega, rfl⟩
  | miss h R ih =>
    intro hinj
    obtain ⟨h1, h2⟩ := ih (fun a b ha hb => hinj a b (by omega) (by omega))
    refine ⟨h1, fun q hq => ?_⟩
    obtain ⟨j, hj, e⟩ := h2 q hq
    exact ⟨j, by omega, e⟩

theorem fl_oneM (f : Nat → Int) (n : Nat) : ∀ v ∈ fl f n, v.oneCell' = true := by
  intro v hv
  simp only [fl, List.mem_map] at hv
  obtain ⟨x, _, rfl⟩ := hv
  rfl
theorem own_geM {B g n c : Nat} (h : B ≤ g) : ∀ b, (Value.slice (some ⟨g, 0, none⟩) n c).ownBlock = some b → B ≤ b := by
  intro b hb
  simp only [Value.ownBlock, Option.some.injEq] at hb
  omega
theorem own_hdM {B g m cap : Nat} {w : World} {o : Nat → Int} (h : w.ownsRow B 3 1 (.slice (some ⟨g, 0, none⟩) m cap) m (fl o m)) : B ≤ g ∧ Hd 3 w g cap (fl o m) := by
  obtain ⟨g', cap', e, h1, _, h2⟩ := Hd.of_owns h (by intro e; injection e with e; cases e)
  rw [fl_len] at e
  injection e with e1 e2 e3
  injection e1 with e1
  injection e1 with e1
  subst e1 e3
  exact ⟨h1, h2⟩
theorem nrowM {g g' : Nat} {n c : Nat} (h : g ≠ g') : some g ≠ (Value.slice (some ⟨g', 0, none⟩) n c).ownBlock := by
  simp only [Value.ownBlock, ne_eq, Option.some.injEq]
  exact h
theorem seen_new (W : World) (m : Nat) : Blk 4 (W.alloc (.cells (Array.replicate m (.bool false)) 4)) W.heap.size (flB (fun _ => false) m) := by
  rw [flB_const]
  have := Blk.new W 4 (List.replicate m (.bool false))
  simpa using this
theorem own_emptyM (W : World) (B : Nat) (hB : B ≤ W.heap.size) : (W.alloc (.cells #[] 3)).ownsRow B 3 1 (.slice (some ⟨W.heap.size, 0, none⟩) 0 0) 0 [] :=
  ⟨by simp, .inr ⟨W.heap.size, 0, #[], rfl, hB, heap_alloc_new _ _, Nat.le_refl _, by unfold maxLen; omega, by simp, by simp⟩⟩
set_option maxHeartbeats 8000000 in
set_option maxRecDepth 100000 in
theorem refMost_any (A : Option Addr) (cT n m k gr cr : Nat) (ls : List (List Int)) (ρ : Nat → Nat) (w : World) (T : Tab w.heap.size w A ls) (G : Good n m ls) (h1 : 1 ≤ n) (h2 : n ≤ m) (h3 : m ≤ 64)
    (hr : Vals w (some ⟨gr, 0, none⟩) (fl (fun j => (ρ j : Int)) k)) (hρ : ∀ j, j < k → ρ j < n) (hinj : ∀ a b, a < k → b < k → ρ a = ρ b → a = b) (hk : k ≤ 64) :
    Calls Try.prog 36 #[.slice A n cT, .slice (some ⟨gr, 0, none⟩) k cr] w fun e w' => ∃ (o : Nat → Int) (c : Nat), e = .returned (.int .i64 (c : Int)) ∧ MstR m (mayC (cst ls)) ρ k o c ∧ Below w.heap.size w w' := by
  have hmk := fun W => makeI m h3 W
  have hmb := fun W => makeB m h3 W
  obtain ⟨i0, hi0, hz0, hz1, hz2⟩ := info_parts infoI
  obtain ⟨g, off, Ai, ci, rfl, hg, hrow, _⟩ := G.at_ T (i := 0) (by omega)
  rw [Nat.add_zero] at hrow
  have hn0 : ¬ (n : Int) = 0 := by omega
  have hn1 : ((n : Int) == 0) = false := by simp; omega
  have hn2 : (0 : Int) < (n : Int) := by omega
  have hn3 : 0 < n := by omega
  have HT := Lib.hid T
  have HG := Lib.hid G
  have HRW := Lib.hid hr
  have HP := Lib.hid hρ
  have HINJ := Lib.hid hinj
  clear T G hr hρ hinj hg
  go_enter Try.func36, Try.ntmps36
  go_wp2_with (fail)
  have hb0 : Blk 3 (w.alloc (.cells (Array.replicate m (.int .i64 0)) 3)) w.heap.size (fl (fun _ => 0) m) := by
    have e : fl (fun _ => (0 : Int)) m = List.replicate m (.int .i64 0) := by
      apply List.ext_getElem?
      intro i
      by_cases h : i < m
      · rw [fl_at h, List.getElem?_replicate, if_pos h]
      · rw [List.getElem?_eq_none (by rw [fl_len]; omega), List.getElem?_eq_none (by simp; omega)]
    rw [e]
    have := Blk.new w 3 (List.replicate m (.int .i64 0))
    simpa using this
  have hbl0 := below_new w (.cells (Array.replicate m (.int .i64 0)) 3)
  have HB0 := Lib.hid hb0
  have HL0 := Lib.hid hbl0
  clear hb0 hbl0 hrow
  generalize w.alloc (.cells (Array.replicate m (.int .i64 0)) 3) = W1 at *
  obtain ⟨g0, hg0⟩ : ∃ g0, g0 = w.heap.size := ⟨_, rfl⟩
  rw [← hg0] at HB0
  rw [← hg0]
  have HG0 := Lib.hid hg0
  clear hg0
  go_loopw [6] (fun t wr => ∃ (i : Nat) (f : Nat → Int), i ≤ m ∧ t = .int .i64 (i : Int) ∧ Blk 3 wr g0 (fl f m) ∧ Hid (∀ j, j < i → f j = -1) ∧ Below w.heap.size w wr) (fun t _ => m - (intOf t).toNat)
  case atStart => exact ⟨0, _, Nat.zero_le _, rfl, HB0.out, Lib.hid (fun j hj => by omega), HL0.out⟩
  case round =>
    clear HB0 HL0
    obtain ⟨i, f, hi, rfl, hB, HF, hl⟩ := hrel
    by_cases hlt : i < m
    · have hlt2 : (i : Int) < (m : Int) := by omega
      have c0 := hB.int hlt
      have f0 := hB.frozen i
      have HS := Lib.hid (hB.setI i (-1))
      have HL2 := Lib.hid (below_set hl (g := g0) (i := i) (by rw [HG0.out]; exact Nat.le_refl _) (.int .i64 (-1)))
      have HF2 : Hid (∀ j, j < i + 1 → upd f i (-1) j = -1) := Lib.hid (fun j hj => by
        by_cases e : j = i
        · rw [e, upd_at]
        · rw [upd_ne e]; exact HF.out j (by omega))
      clear hB hl
      go_wp2_with (fail)
      go_roundw
      case rel => exact ⟨i + 1, _, by omega, by go_num, HS.out, HF2, HL2.out⟩
      case measure => simp [intOf]; omega
    · obtain rfl : m = i := by omega
      have hB2 : Hd 3 wr g0 m (fl (fun _ => -1) m) := by
        have e : fl f m = fl (fun _ => -1) m := by
          unfold fl
          apply List.map_congr_left
          intro j hj
          rw [HF.out j (List.mem_range.1 hj)]
        rw [e] at hB
        have := Hd.of_blk hB
        rwa [fl_len] at this
      have HB2 := Lib.hid hB2
      have HL2 := Lib.hid hl
      clear hB hB2 hl HF hi hlt hmk
      go_wp2_with (fail)
      go_loopw [5, 7, 8, 9, 10, 11] (fun a q t _ _ _ wr => ∃ (i c go co : Nat) (o : Nat → Int), i ≤ k ∧ c ≤ i ∧ a = .slice (some ⟨go, 0, none⟩) m co ∧ q = .int .i64 (c : Int) ∧ t = .int .i64 (i : Int) ∧ w.heap.size ≤ go ∧ Hd 3 wr go co (fl o m) ∧ Hid (MstR m (mayC (cst ls)) ρ i o c) ∧ Below w.heap.size w wr) (fun _ _ t _ _ _ _ => k - (intOf t).toNat)
      case atStart => exact ⟨0, 0, g0, _, _, Nat.zero_le _, Nat.le_refl _, rfl, rfl, rfl, by rw [HG0.out]; exact Nat.le_refl _, HB2.out, Lib.hid MstR.zero, HL2.out⟩
      case round =>
        clear HB2 HL2
        obtain ⟨i, cc, go, co, o, hi, hci, rfl, rfl, rfl, hgo, hH, HS, hl⟩ := hrel
        by_cases hlt : i < k
        · have hlt2 : (i : Int) < (k : Int) := by omega
          obtain ⟨gr', or', er, hgr', hcr⟩ := (Vals.keep HRW.out hl) (by rw [fl_len]; omega)
          injection er with er
          injection er with er1 er2
          subst er1 er2
          have cr0 := hcr i _ (fl_at hlt)
          rw [Nat.zero_add] at cr0
          have hrl := HP.out i hlt
          have hm1 : 0 < m := by omega
          have hmx1 : 0 + m ≤ maxLen := by unfold maxLen; omega
          have hmb1 : (0 + m) * 8 ≤ 140737488355328 := by omega
          have hV : ∀ X, Below wr.heap.size wr X → Vals X (some ⟨go, 0, none⟩) (fl o m) := fun X h => (hH.keep h).vals
          have HV := Lib.hid hV
          have HFD : Hid (∀ (X : World) (g5 c5 gs : Nat), Below wr.heap.size wr X → FdM wr.heap.size X g5 c5 gs m o (fun _ => false) → Calls Try.prog 62 #[.slice (some ⟨g, off, none⟩) n cT, .int .i64 (ρ i : Int), .slice (some ⟨g5, 0, none⟩) m c5, .slice (some ⟨gs, 0, none⟩) m m] X fun e w' =>
              ∃ b o' s', e = .returned (.tuple #[.slice (some ⟨g5, 0, none⟩) m c5, .slice (some ⟨gs, 0, none⟩) m m, .bool b]) ∧ Room m (mayC (cst ls)) (ρ i) 0 o (fun _ => false) b o' s' ∧ FdM wr.heap.size w' g5 c5 gs m o' s' ∧ Below wr.heap.size X w') := Lib.hid (fun X g5 c5 gs hX hF => find_any wr.heap.size g5 c5 gs n m cT _ ls wr HG.out ((HT.out.keep hl).mono hl.size) h3 (cntB (fun _ => false) m + 1) (ρ i) o _ X (Nat.lt_succ_self _) hX hrl HS.out.dom (fun j hj q e => by
            obtain ⟨a, ha, rfl⟩ := (HS.out.own (fun a b ha hb => HINJ.out a b (by omega) (by omega))).2 q ⟨j, hj, e⟩
            exact HP.out a (by omega)) hF)
          have b1 := below_on (Below.refl wr.heap.size wr).drew (Nat.le_refl _) (below_new wr.drew (.cells #[] 3))
          have b2 := below_on b1 b1.size (below_new (wr.drew.alloc (.cells #[] 3)) (.cells (Array.replicate m (.bool false)) 4))
          have b3 := below_on (Below.refl wr.heap.size wr).drew (Nat.le_refl _) (below_new wr.drew (.cells (Array.replicate m (.bool false)) 4))
          have b4 := below_on b3 b3.size (below_new (wr.drew.alloc (.cells (Array.replicate m (.bool false)) 4)) (.cells #[] 3))
          have z1 : (wr.drew.alloc (.cells (Array.replicate m (.bool false)) 4)).heap.size = wr.heap.size + 1 := by simp
          have z2 : (wr.drew.alloc (.cells #[] 3)).heap.size = wr.heap.size + 1 := by simp
          have o1 := own_emptyM wr.drew wr.heap.size (Nat.le_refl _)
          have o2 := ownsRow_keep o1 (below_new (wr.drew.alloc (.cells #[] 3)) (.cells (Array.replicate m (.bool false)) 4))
          have o4 := own_emptyM (wr.drew.alloc (.cells (Array.replicate m (.bool false)) 4)) wr.heap.size b3.size
          rw [z1] at o4
          have e2 : Blk 4 ((wr.drew.alloc (.cells #[] 3)).alloc (.cells (Array.replicate m (.bool false)) 4)) (wr.heap.size + 1) (flB (fun _ => false) m) := by rw [← z2]; exact seen_new _ m
          have e3 : Blk 4 (wr.drew.alloc (.cells (Array.replicate m (.bool false)) 4)) wr.drew.heap.size (flB (fun _ => false) m) := seen_new _ m
          have e4 := e3.keep (below_new (wr.drew.alloc (.cells (Array.replicate m (.bool false)) 4)) (.cells #[] 3))
          have hw1 : ∀ X, Below wr.heap.size wr X → X.cell? ⟨gr, i, none⟩ = some (.int .i64 (ρ i : Int)) := fun X h => (h.cell (p := ⟨gr, i, none⟩) hgr').trans cr0
          have HW1 := Lib.hid hw1
          have B1 := Lib.hid b1
          have B2 := Lib.hid b2
          have B3 := Lib.hid b3
          have B4 := Lib.hid b4
          have O1 := Lib.hid o1
          have O2 := Lib.hid o2
          have O4 := Lib.hid o4
          have E2 := Lib.hid e2
          have E4 := Lib.hid e4
          have y0 := hw1 _ (Below.refl wr.heap.size wr).drew
          have HH := Lib.hid hH
          have HL := Lib.hid hl
          generalize hri : ρ i = ri at *
          have HRI := Lib.hid hri
          clear b1 b2 b3 b4 o1 o2 o4 e2 e3 e4 z1 z2 hw1 hV hH hl hcr cr0 hri
          go_upto_region 12 with (fail)
          go_cut [9, 10, 11] from 36 to 54 (fun a _ b ww => ∃ (bb : Bool) (o' : Nat → Int) (s' : Nat → Bool) (g5 c5 : Nat), a = .slice (some ⟨g5, 0, none⟩) m c5 ∧ b = .bool bb ∧ wr.heap.size ≤ g5 ∧ Room m (mayC (cst ls)) ri 0 o (fun _ => false) bb o' s' ∧ Hd 3 ww g5 c5 (fl o' m) ∧ Below wr.heap.size wr ww)
          case first =>
            go_region_held_law (fun w' => w'.cell? ⟨gr, i, none⟩ = some (.int .i64 (ri : Int)))
              (first | exact y0 | exact HW1.out _ B1.out | exact HW1.out _ B2.out | exact HW1.out _ B3.out | exact HW1.out _ B4.out | exact HW1.out _ hb8 | exact HW1.out _ hb6 | exact HW1.out _ hb5 | go_keep)
              (first
                | (refine step_append_lies _ rfl (.tmp 41) (.tmp 42) 23 rfl wr.heap.size 3 i0 (.int .i64 0) 1 8 Try.underlying23 hi0 hz0 hz1 hz2 rfl (by decide) (.slice (some ⟨wr.drew.heap.size, 0, none⟩) 0 0) 0 [] rfl O1.out ⟨go, 0, none⟩ m co (fl o m) rfl (by rw [fl_len, Nat.mul_one]) (vals_cells (HV.out _ B1.out)) (fl_oneM o m) hm1 hmx1 hmb1 B1.out.size _ rfl ?_; intro g5 cap5 w5 hown5 hgr5 hat5 hlt5; rw [Nat.zero_add, List.nil_append] at hown5; have hb5 := B1.out.grown hgr5 B1.out.size (own_geM (by simp)); obtain ⟨hg5, hH5⟩ := own_hdM hown5; have hb6 := below_on hb5 hb5.size (below_new w5 (.cells (Array.replicate m (.bool false)) 4)); have f6 : FdM wr.heap.size (w5.alloc (.cells (Array.replicate m (.bool false)) 4)) g5 cap5 w5.heap.size m o (fun _ => false) := ⟨hH5.keep (below_new _ _), seen_new w5 m, hg5, hb5.size, Nat.ne_of_lt hlt5, hb6.size⟩)
                | (refine step_append_lies _ rfl (.tmp 41) (.tmp 42) 23 rfl wr.heap.size 3 i0 (.int .i64 0) 1 8 Try.underlying23 hi0 hz0 hz1 hz2 rfl (by decide) (.slice (some ⟨wr.drew.heap.size, 0, none⟩) 0 0) 0 [] rfl O2.out ⟨go, 0, none⟩ m co (fl o m) rfl (by rw [fl_len, Nat.mul_one]) (vals_cells (HV.out _ B2.out)) (fl_oneM o m) hm1 hmx1 hmb1 B2.out.size _ rfl ?_; intro g5 cap5 w5 hown5 hgr5 hat5 hlt5; rw [Nat.zero_add, List.nil_append] at hown5; have hb5 := B2.out.grown hgr5 B2.out.size (own_geM (by simp)); obtain ⟨hg5, hH5⟩ := own_hdM hown5; have hb6 := hb5; have f6 : FdM wr.heap.size w5 g5 cap5 (wr.heap.size + 1) m o (fun _ => false) := ⟨hH5, E2.out.grown hgr5 (nrowM (by simp)), hg5, by omega, (by rcases hat5 with h | h <;> simp [Value.ownBlock] at h <;> omega), hb6.size⟩)
                | (refine step_append_lies _ rfl (.tmp 41) (.tmp 42) 23 rfl wr.heap.size 3 i0 (.int .i64 0) 1 8 Try.underlying23 hi0 hz0 hz1 hz2 rfl (by decide) (.slice (some ⟨(wr.heap.size + 1), 0, none⟩) 0 0) 0 [] rfl O4.out ⟨go, 0, none⟩ m co (fl o m) rfl (by rw [fl_len, Nat.mul_one]) (vals_cells (HV.out _ B4.out)) (fl_oneM o m) hm1 hmx1 hmb1 B4.out.size _ rfl ?_; intro g5 cap5 w5 hown5 hgr5 hat5 hlt5; rw [Nat.zero_add, List.nil_append] at hown5; have hb5 := B4.out.grown hgr5 B4.out.size (own_geM (by simp)); obtain ⟨hg5, hH5⟩ := own_hdM hown5; have hb6 := hb5; have f6 : FdM wr.heap.size w5 g5 cap5 wr.drew.heap.size m o (fun _ => false) := ⟨hH5, E4.out.grown hgr5 (nrowM (by simp)), hg5, Nat.le_refl _, (by rcases hat5 with h | h <;> simp [Value.ownBlock] at h <;> simp <;> omega), hb6.size⟩)
                | (go_at_call 62; refine (HFD.out _ g5 cap5 _ hb6 f6).mono ?_; rintro e w8 ⟨bb, o', s', rfl, hroom, hF8, hbx⟩; have hb8 := hb6.trans hbx))
            all_goals
              go_wp2_with (fail)
              go_meet
              case rel => exact ⟨bb, o', s', g5, cap5, rfl, rfl, hg5, hroom, hF8.own, hb8⟩
          case rest =>
            obtain ⟨bb, o', s', g5, c5, rfl, rfl, hg5, hroom, hH2, hb2⟩ := hcut
            clear B1 B2 B3 B4 O1 O2 O4 E2 E4 HV HFD HW1
            have HRM := Lib.hid hroom
            have HB2 := Lib.hid hb2
            have HH2 := Lib.hid hH2
            clear hroom hb2 hH2 y0
            cases bb with
            | true =>
              have HS2 := Lib.hid (MstR.hit HS.out (HRI.out ▸ HRM.out))
              go_wp2_with (fail)

              go_roundw

              case rel => exact ⟨i + 1, cc + 1, g5, c5, o', by omega, by omega, rfl, by go_num, by go_num, Nat.le_trans HL.out.size hg5, HH2.out, HS2, HL.out.trans (HB2.out.mono HL.out.size)⟩
              case measure => simp [intOf]; omega
            | false =>
              have hoo := HRM.out.frame.2 rfl
              subst hoo
              have HS2 := Lib.hid (MstR.miss HS.out (HRI.out ▸ HRM.out))
              go_wp2_with (fail)
              go_roundw
              case rel => exact ⟨i + 1, cc, go, co, _, by omega, by omega, rfl, rfl, by go_num, hgo, HH.out.keep HB2.out, HS2, HL.out.trans (HB2.out.mono HL.out.size)⟩
              case measure => simp [intOf]; omega
        · obtain rfl : i = k := by omega
          go_wp2_with (fail)
          go_ret
          exact ⟨o, cc, rfl, HS.out, hl⟩
end Go.Proofs.Ytncmfjncdhhjoaa
