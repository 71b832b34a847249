/- The reference's table. -/
import Derived.Test.YtkfjlgjncaddpaaRtm
import Derived.BigRegion
namespace Go.Proofs.Ytkfjlgjncaddpaa
open Go.RowKit

theorem cell_setO {w : World} {g i : Nat} {a : Addr} (h : g ≠ a.block) (v : Value) : (w.setCell a v).cell? ⟨g, i, none⟩ = w.cell? ⟨g, i, none⟩ := by
  have := heap_setCell_other w a g v h
  simp only [World.cell?, this]
theorem fil_row (kerf : Nat) (ss : List Sh) (H m : Nat) : ∀ r y, r < m + 1 → y < H → upd (tbC (filT kerf ss H (m + 1) 1)) m (fun _ => 0) r y = tbC (filT kerf ss H (m + 1) 1) r y := by
  intro r y hr hy
  by_cases e : r = m
  · subst e
    rw [upd_at]
    unfold tbC filT
    rw [if_neg (by omega)]
    rfl
  · rw [upd_ne e]
theorem fil_start (kerf : Nat) (ss : List Sh) (H m n : Nat) : tbC (filT kerf ss H (m + 1) (n + 1)) m n = 0 := by
  unfold tbC filT
  rw [if_neg (by omega)]
  rfl
theorem fil_done (kerf : Nat) (ss : List Sh) (H m n : Nat) (hn : n < H) : ∀ r y, r < m + 1 → y < H →
    upd (tbC (filT kerf ss H (m + 1) (n + 1))) m (upd (tbC (filT kerf ss H (m + 1) (n + 1)) m) n (best kerf ss (m + 1) (n + 1)).v) r y = tbC (filT kerf ss H (m + 1) (n + 2)) r y := by
  intro r y hr hy
  by_cases e : r = m
  · subst e
    rw [upd_at]
    by_cases e2 : y = n
    · subst e2
      rw [upd_at]
      unfold tbC
      rw [filT_at _ _ _ _ _ _ _ (by omega)]
    · rw [upd_ne e2]
      unfold tbC filT
      by_cases k : y < n
      · rw [if_pos (by omega), if_pos (by omega)]
      · rw [if_neg (by omega), if_neg (by omega)]
  · rw [upd_ne e]
    unfold tbC filT
    rw [if_pos (by omega), if_pos (by omega)]
theorem fil_end (kerf : Nat) (ss : List Sh) (H m : Nat) : ∀ r y, r < m + 1 → y < H → tbC (filT kerf ss H (m + 1) (H + 1)) r y = tbC (filT kerf ss H (m + 2) 1) r y := by
  intro r y hr hy
  unfold tbC filT
  rw [if_pos (by omega), if_pos (by omega)]
set_option maxHeartbeats 4000000 in
set_option maxRecDepth 100000 in
theorem refTable_any (W H kerf : Nat) (A : Option Addr) (L cp : Nat) (ss : List Sh) (w : World) (hA : ShAt w A ss) (hL : L = ss.length) (hL16 : L ≤ 16) (hok : OkS ss) (hW : W ≤ 64) (hH : H ≤ 64) (hk : kerf ≤ 8) :
    Calls Try.prog 21 #[.int .i64 (W : Int), .int .i64 (H : Int), .int .i64 (kerf : Int), .slice A L cp] w fun e w' =>
      ∃ g cap gs, e = .returned (.slice (some ⟨g, 0, none⟩) W cap) ∧ RtM w.heap.size w w' W H g cap gs (tbC (filT kerf ss H (W + 1) 1)) := by
  obtain ⟨r0, hr0, hx0, hx1, hx2⟩ := info_parts infoRow
  have HMR := makeRow H (by omega)
  have HA := Lib.hid hA
  have HL := Lib.hid hL
  have HOK := Lib.hid hok
  have HS := Lib.hid (RtM.start w H (fun _ => 0) (tbC (filT kerf ss H 1 1)))
  obtain ⟨B, hB⟩ : ∃ B, B = w.heap.size := ⟨_, rfl⟩
  have HB := Lib.hid hB
  clear hA hL hok hB
  go_enter Try.func21, Try.ntmps21
  go_upto_region 3 with (fail)
  rw [← HB.out] at HS ⊢
  generalize w.alloc (.cells #[] 34) = W1 at *
  go_loopw [9, 10, 11, 12, 13, 14] (fun v t _ _ _ _ wr => ∃ (m g cap : Nat) (gs : Nat → Nat), m ≤ W ∧ t = .int .i64 ((m + 1 : Nat) : Int) ∧ v = .slice (some ⟨g, 0, none⟩) m cap ∧ Hid (RtM B w wr m H g cap gs (tbC (filT kerf ss H (m + 1) 1)))) (fun _ t _ _ _ _ _ => W + 1 - (intOf t).toNat)
  case atStart => exact ⟨0, B, 0, _, Nat.zero_le _, rfl, rfl, HS⟩
  case round =>
    clear HS
    obtain ⟨m, g, cap, gs, hm, rfl, rfl, HM⟩ := hrel
    by_cases hlt : m < W
    · have hle : ((m + 1 : Nat) : Int) ≤ (W : Int) := by omega
      have HO := Lib.hid ((HM.out.ow.alloc (.cells (Array.replicate H (.int .i64 0)) 3)).alloc (.cells #[.slice (some ⟨wr.heap.size, 0, none⟩) H H] 34))
      have HN := Lib.hid ((show Blk 34 ((wr.alloc (.cells (Array.replicate H (.int .i64 0)) 3)).alloc (.cells #[.slice (some ⟨wr.heap.size, 0, none⟩) H H] 34)) (wr.heap.size + 1) [.slice (some ⟨wr.heap.size, 0, none⟩) H H] from blk_new2 [.slice (some ⟨wr.heap.size, 0, none⟩) H H]).vals0)
      have hB2 : B ≤ ((wr.alloc (.cells (Array.replicate H (.int .i64 0)) 3)).alloc (.cells #[.slice (some ⟨wr.heap.size, 0, none⟩) H H] 34)).heap.size := by have := HM.out.siz; simp; omega
      have HON : Hid (∀ u ∈ [Value.slice (some ⟨wr.heap.size, 0, none⟩) H H], u.oneCell' = true) := Lib.hid (fun u hu => by simp at hu; subst hu; rfl)
      have hmx : m + 1 ≤ maxLen := by unfold maxLen; omega
      have hby : (m + 1) * 24 ≤ 140737488355328 := by omega
      go_upto_region 6 with (at_builtin; refine wpList_append_lies _ rfl _ _ 28 rfl B 34 r0 zRow 1 24 Try.underlying28 hr0 hx0 hx1 hx2 rfl (by decide) (.slice (some ⟨g, 0, none⟩) m cap) m _ rfl HO.out ⟨wr.heap.size + 1, 0, none⟩ 1 _ [.slice (some ⟨wr.heap.size, 0, none⟩) H H] rfl rfl (vals_cells HN.out) HON.out (by decide) hmx hby hB2 _ rfl ?_; intro g5 c5 w5 hown5 hgr5 hat5 hlt5)
      have HG := Lib.hid ((HM.out.grow hown5 hgr5 hat5).congr (fil_row kerf ss H m))
      generalize upd gs m wr.heap.size = gt at *
      clear hown5 hgr5 hat5 hlt5 HO HN hB2 HON hmx hby HM
      go_upto_region 7 with (fail)
      go_loopw [11, 12, 13, 14] (fun t _ _ _ wr => ∃ n : Nat, n ≤ H ∧ t = .int .i64 ((n + 1 : Nat) : Int) ∧ Hid (RtM B w wr (m + 1) H g5 c5 gt (tbC (filT kerf ss H (m + 1) (n + 1))))) (fun t _ _ _ _ => H + 1 - (intOf t).toNat)
      case atStart => exact ⟨0, Nat.zero_le _, rfl, HG⟩
      case round =>
        clear HG
        obtain ⟨n, hn, rfl, HM⟩ := hrel
        by_cases hlt2 : n < H
        · have hle2 : ((n + 1 : Nat) : Int) ≤ (H : Int) := by omega
          have hbw : Below w.heap.size w wr := HB.out ▸ HM.out.bel
          have hra := HA.out.keep hbw
          have hrd := HM.out.read
          have hbig := tbC_big HOK.out kerf H (m + 1) (n + 1) (by omega) (by omega)
          obtain ⟨T, hT⟩ : ∃ T, T = filT kerf ss H (m + 1) (n + 1) := ⟨_, rfl⟩
          rw [← hT] at HM hrd hbig
          have h1 : m + 1 ≤ 64 := by omega
          have h2 : n + 1 ≤ 64 := by omega
          have hcu := refCuts_any g5 (m + 1) c5 H gt (tbC T) (m + 1) (n + 1) kerf A L cp ss wr hrd hra HL.out hL16 HOK.out (Nat.le_refl _) (by omega) h1 hH (by omega) (by omega) hk hbig
          obtain ⟨l, hl⟩ : ∃ l, l = refL T kerf ss (m + 1) (n + 1) := ⟨_, rfl⟩
          have hln : l.length ≤ 1000 := by have := refL_len T kerf ss (m + 1) (n + 1) (by omega) (by omega); have := HL.out; rw [hl]; omega
          have hcu2 : Calls Try.prog 43 #[.slice (some ⟨g5, 0, none⟩) (m + 1 : Nat) c5, .int .i64 ((m + 1 : Nat) : Int), .int .i64 ((n + 1 : Nat) : Int), .int .i64 (kerf : Int), .slice A L cp] wr (CutsPost wr.heap.size wr l) := by rw [hl]; exact hcu
          have hbst : mxF l l.length = (best kerf ss (m + 1) (n + 1)).v := by rw [hl, hT]; exact refL_best kerf ss H (m + 1) (n + 1) (by omega) (by omega) (by omega)
          have h0 : tbC T m n = 0 := by rw [hT]; exact fil_start kerf ss H m n
          have HT := Lib.hid hT
          have HBS := Lib.hid hbst
          have HCU := Lib.hid hcu2
          clear hcu hcu2 hl hrd hra hbig hbw hT hbst
          go_upto_region 10 with (go_at_call 43; refine HCU.out.mono ?_; rintro e w2 ⟨g1, c1, g2, c2, rfl, hcc, hii, hb2, hge1, hge2⟩)
          have hgm : gt m < wr.heap.size := (HM.out.row m (by omega)).lt
          have hlt3 : n < H := hlt2
          have e0 : ∀ r y, r < m + 1 → y < H → tbC T r y = upd (tbC T) m (upd (tbC T m) n (mxF l 0)) r y := by
            intro r y _ _
            rw [mxF_zero, ← h0]
            by_cases e : r = m
            · subst e
              rw [upd_at]
              by_cases e2 : y = n
              · subst e2; rw [upd_at]
              · rw [upd_ne e2]
            · rw [upd_ne e]
          have HM0 := Lib.hid ((HM.out.keep hb2).congr e0)
          have HI0 := Lib.hid hii
          obtain ⟨N, hN⟩ : ∃ N, N = l.length := ⟨_, rfl⟩
          rw [← hN] at HBS hln ⊢
          have HN := Lib.hid hN
          have hg2 : g2 ≠ gt m := by omega
          clear e0 h0 hcc hii hb2 hge1 hge2 HCU HM hgm hN
          go_upto_region 11 with (fail)
          go_loopw [14] (fun t wr => ∃ p : Nat, p ≤ N ∧ t = .int .i64 (p : Int) ∧ Hid (RtM B w wr (m + 1) H g5 c5 gt (upd (tbC T) m (upd (tbC T m) n (mxF l p)))) ∧ Hid (Ints wr (some ⟨g2, 0, none⟩) (l.map fun c => c.v))) (fun t _ => N - (intOf t).toNat)
          case atStart => exact ⟨0, Nat.zero_le _, rfl, HM0, HI0⟩
          case round =>
            clear HM0 HI0
            obtain ⟨p, hp, rfl, HM, HI⟩ := hrel
            by_cases hlt4 : p < N
            · have hlt5 : (p : Int) < (N : Int) := by omega
              have hpl : p < l.length := by have := HN.out; omega
              have hrd := HM.out.read
              have sp := hrd.sp m (by omega)
              have sr := hrd.row m n (by omega) hlt3
              rw [upd_at, upd_at] at sr
              have sf := (HM.out.row m (by omega)).frozen n
              have so := (Ints.at_ HI.out (i := p) (by simpa using hpl))
              obtain ⟨g', off', x', e', hg', hx', co⟩ := so
              injection e' with e'
              injection e' with e1 e2
              subst e1 e2
              have hxx : x' = (l.getD p cho0).v := by
                rw [List.getElem?_map, List.getElem?_eq_getElem hpl] at hx'
                injection hx' with hx'
                rw [← hx', List.getD_eq_getElem?_getD, List.getElem?_eq_getElem hpl]; rfl
              rw [Nat.zero_add] at co
              obtain ⟨v0, hv0⟩ : ∃ v0, v0 = mxF l p := ⟨_, rfl⟩
              have hmx : mxF l (p + 1) = if v0 < x' then x' else v0 := by
                rw [mxF_succ l p hpl, ← hxx, ← hv0]
                split <;> omega
              have HS : Hid (RtM B w (wr.setCell ⟨gt m, n, none⟩ (.int .i64 (if v0 < x' then x' else v0))) (m + 1) H g5 c5 gt (upd (tbC T) m (upd (tbC T m) n (mxF l (p + 1))))) := Lib.hid (by
                have h := HM.out.set (r0 := m) (by omega) n (if v0 < x' then x' else v0)
                rw [upd_at] at h
                rw [hmx]
                refine h.congr fun r y _ _ => ?_
                by_cases e : r = m
                · subst e
                  rw [upd_at, upd_at]
                  by_cases e2 : y = n
                  · subst e2; rw [upd_at, upd_at]
                  · rw [upd_ne e2, upd_ne e2, upd_ne e2]
                · rw [upd_ne e, upd_ne e, upd_ne e])
              have HI2 : Hid (Ints (wr.setCell ⟨gt m, n, none⟩ (.int .i64 (if v0 < x' then x' else v0))) (some ⟨g2, 0, none⟩) (l.map fun c => c.v)) := Lib.hid (by
                intro hl
                obtain ⟨g3, o3, e3, h3, c3⟩ := HI.out hl
                injection e3 with e3
                injection e3 with e1 e2
                subst e1 e2
                exact ⟨_, _, rfl, by simpa using h3, fun i v hv => by rw [cell_setO hg2]; exact c3 i v hv⟩)
              rw [← hv0] at sr
              have wm : ((m : Nat) : Int) + 1 - 1 = (m : Int) := by omega
              have m65 : m < 64 := by omega
              have n65 : n < 64 := by omega
              have p65 : p < 1000 := by omega
              clear hrd hx' hxx hv0 hmx HM HI
              go_upto_region 13 with (fail)
              go_region
              have HS2 := Lib.hid (HS.out.drewN 1)
              have HI3 := Lib.hid (HI2.out.drewN 1)
              clear sp sr sf co wm HS HI2
              go_wp2_with (fail)
              go_roundw
              case rel => exact ⟨p + 1, by omega, by go_num, HS2, HI3⟩
              case measure => simp [intOf]; omega
            · obtain rfl : p = N := by omega
              have hlt5 : ¬ (p : Int) < (p : Int) := by omega
              have hD : Hid (RtM B w wr (m + 1) H g5 c5 gt (tbC (filT kerf ss H (m + 1) (n + 2)))) := by
                have h := HM.out
                rw [HBS.out, HT.out] at h
                exact Lib.hid (h.congr (fil_done kerf ss H m n hlt3))
              clear HM HI
              go_wp2_with (fail)
              go_roundw
              case rel => exact ⟨n + 1, by omega, by go_num, hD⟩
              case measure => simp [intOf]; omega
        · obtain rfl : n = H := by omega
          have hle2 : ¬ ((n + 1 : Nat) : Int) ≤ (n : Int) := by omega
          have hD := Lib.hid (HM.out.congr (fil_end kerf ss n m))
          clear HM
          go_wp2_with (fail)
          go_roundw
          case rel => exact ⟨m + 1, g5, c5, gt, by omega, by go_num, rfl, hD⟩
          case measure => simp [intOf]; omega
    · obtain rfl : m = W := by omega
      have hle : ¬ ((m + 1 : Nat) : Int) ≤ (m : Int) := by omega
      go_wp2
      go_ret
      exact ⟨g, cap, rfl, gs, by rw [← HB.out]; exact HM.out⟩
end Go.Proofs.Ytkfjlgjncaddpaa
