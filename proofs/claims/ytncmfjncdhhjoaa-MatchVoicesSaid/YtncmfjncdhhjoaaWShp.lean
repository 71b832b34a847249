/- shop: a copy of the first jacks and quills. -/
import Derived.Test.YtncmfjncdhhjoaaJkM
import Derived.Test.YtncmfjncdhhjoaaRep
import Derived.Maps.AppendAt
import Derived.Laws.OwnMore
import Derived.Laws.ResultCell
import Derived.Deep.RegionHeld3
import Derived.Deep.Cut
namespace Go.Proofs.Ytncmfjncdhhjoaa
open Go.RowKit

theorem infoJ : (Try.prog.info? 68).map (fun i => (i.zero, i.size, i.bytes)) = some (some (.agg #[.int .i64 0, .int .i64 0]), 2, 16) := by kernel_rfl
theorem infoQ : (Try.prog.info? 66).map (fun i => (i.zero, i.size, i.bytes)) = some (some (.agg #[.int .i64 0, .int .i64 0]), 2, 16) := by kernel_rfl
theorem und57 : (Try.prog.underlying 57).map (fun d => match d with | .struct _ | .array _ _ => true | _ => false) = some true := by kernel_rfl
theorem size57 : (Try.prog.info? 57).map (·.size) = some 4 := by kernel_rfl
theorem own_hdS {B T k : Nat} {w : World} {v : Value} {n : Nat} {vs : List Value} (h : w.ownsRow B T k v n vs) (hv : v ≠ .slice none 0 0) : ∃ g cap, v = .slice (some ⟨g, 0, none⟩) n cap ∧ B ≤ g ∧ n ≤ cap ∧ cap ≤ maxLen ∧ Hd T w g (cap * k) vs := by
  rcases h.2 with ⟨h1, _⟩ | ⟨g, cap, cur, e, h1, h2, h3, h4, h5, h6⟩
  · exact absurd h1 hv
  · refine ⟨g, cap, e, h1, h3, h4, cur.toList.drop (n * k), ?_, ?_⟩
    · have := h.1; have h7 : n * k ≤ cap * k := Nat.mul_le_mul_right _ h3
      rw [List.length_drop]; simp only [Array.length_toList]; omega
    · rw [← h6]
      unfold Blk
      rw [List.take_append_drop]
      simpa using h2
/-- append of all of a slice, nil or not, to an empty row of the call's own, as a step of a region that draws. -/
theorem step_app {ops : Array Oper} {o : Oper} {a : Act} {w : World} {K : Act → World → Prop} {Q : Exit → Act → World → Prop} {E : Prop} (hw : Region.wanted o (yielded ops a.tmps) = true) (s x : Operand) (t : TypeId)
    (ho : o.op = .call { callee := .builtin .append, args := #[s, x], argTypes := #[t, t] })
    (e : TypeId) (i : TypeInfo) (z : Value) (ht : Try.prog.underlying t = some (.slice e)) (hi : Try.prog.info? e = some i) (hz : i.zero = some z)
    (hsize : i.size = 2) (hby : i.bytes = 16) (hzs : z.cells.size = 2)
    (h : Nat) (hs : a.eval s = .slice (some ⟨h, 0, none⟩) 0 0) (hB : Blk e w h [])
    (A : Option Addr) (m c : Nat) (news : List Value) (hx : a.eval x = .slice A m c) (hnil : A = none → m = 0 ∧ c = 0) (hl : news.length = m * 2) (hA : Vals w A news) (h1 : ∀ u ∈ news, u.oneCell' = true) (hm : m ≤ 1000)
    (hK : ∀ g cap w', (g = h ∨ g = w.heap.size) → m ≤ cap → cap ≤ maxLen → Hd e w' g (cap * 2) news → w.grownBy w' (some h) → K (a.put o.dst (.slice (some ⟨g, 0, none⟩) m cap)) w') :
    if Region.wanted o (yielded ops a.tmps) = true then Oper.wp Try.prog o a w K Q else E := by
  rw [if_pos hw]
  have hown : w.ownsRow h e 2 (.slice (some ⟨h, 0, none⟩) 0 0) 0 [] := ⟨by simp, .inr ⟨h, 0, #[], rfl, Nat.le_refl _, hB, Nat.le_refl _, by unfold maxLen; omega, by simp, by simp⟩⟩
  rcases A with _ | ad
  · obtain ⟨rfl, rfl⟩ := hnil rfl
    have hne : news = [] := List.eq_nil_of_length_eq_zero (by omega)
    subst hne
    have hrun := run_append_owned_none (P := Try.prog) (w := w) h t o.type e i 2 ht hi _ 0 [] hown
    unfold Oper.wp
    simp [execOp, ho, resolve, invoke, builtin, hs, hx, hrun, Result.andThen]
    exact hK h 0 w (.inl rfl) (Nat.le_refl _) (by unfold maxLen; omega) ⟨[], by simp, hB⟩ ⟨rfl, rfl, rfl, Nat.le_refl _, fun _ _ _ => rfl⟩
  · obtain ⟨v', w', hr, h2, h3, h4, h5⟩ := run_append_own_at (P := Try.prog) w h t o.type e i z 2 16 ht hi hz hsize hby hzs (by omega) _ 0 [] hown ad m c news hl (vals_cells hA) h1 (by unfold maxLen; omega) (by omega) (Nat.le_of_lt hB.lt)
    have hv : v' ≠ .slice none 0 0 := fun hv => by have := (h4.1 hv).1; simp at this
    rw [Nat.zero_add] at h2
    obtain ⟨g, cap, rfl, g1, g2, g3, g4⟩ := own_hdS h2 hv
    unfold Oper.wp
    simp [execOp, ho, resolve, invoke, builtin, hs, hx, hr, Result.andThen]
    refine hK g cap w' ?_ g2 g3 (by simpa using g4) (by simpa [Value.ownBlock] using h3)
    simpa [Value.ownBlock] using h5

/-- The box of the shop, the box of the result. -/
structure SpM (w wr : World) (q q1 : Nat) (v1 v2 : Value) (b t : Int) : Prop where
  bx : Blk 57 wr q [v1, v2, .int .i64 b, .int .i64 t]
  rv : Blk 57 wr q1 [.slice none 0 0, .slice none 0 0, .int .i64 0, .int .i64 0]
  bel : Below w.heap.size w wr
  far : w.heap.size ≤ q ∧ q < q1
theorem SpM.keep {w wr w' : World} {q q1 : Nat} {v1 v2 : Value} {b t : Int} (h : SpM w wr q q1 v1 v2 b t) (hb : Below wr.heap.size wr w') : SpM w w' q q1 v1 v2 b t :=
  ⟨h.bx.keep hb, h.rv.keep hb, h.bel.trans (hb.mono h.bel.size), h.far⟩
theorem shop_rel {w wc W : World} {q q1 : Nat} {A A' : Option Addr} {N M c c' g3 k3 g7 k7 : Nat} {bend trim : Int} {l1 l2 : List J2} (hs : SpM w wc q q1 (.slice A N c) (.slice A' M c') bend trim) (hb : Below wc.heap.size wc W) (o3 : Hd 68 W g3 (k3 * 2) (jc l1)) (o7 : Hd 66 W g7 (k7 * 2) (jc l2))
    (hqq : q < q1) (hql : q < wc.heap.size) (hq1l : q1 < wc.heap.size) (h3 : wc.heap.size ≤ g3) (h7 : wc.heap.size ≤ g7) :
    (SpM w ((W.setCell ⟨q, 0, none⟩ (.slice (some ⟨g3, 0, none⟩) N k3)).setCell ⟨q, 1, none⟩ (.slice (some ⟨g7, 0, none⟩) M k7)) q q1 (.slice (some ⟨g3, 0, none⟩) N k3) (.slice (some ⟨g7, 0, none⟩) M k7) bend trim ∧
      JAt ((W.setCell ⟨q, 0, none⟩ (.slice (some ⟨g3, 0, none⟩) N k3)).setCell ⟨q, 1, none⟩ (.slice (some ⟨g7, 0, none⟩) M k7)) (some ⟨g3, 0, none⟩) l1 ∧ JAt ((W.setCell ⟨q, 0, none⟩ (.slice (some ⟨g3, 0, none⟩) N k3)).setCell ⟨q, 1, none⟩ (.slice (some ⟨g7, 0, none⟩) M k7)) (some ⟨g7, 0, none⟩) l2 ∧ q1 < g3 ∧ q1 < g7) ∧
    (W.setCell ⟨q, 0, none⟩ (.slice (some ⟨g3, 0, none⟩) N k3)).cell? ⟨q, 1, none⟩ = some (.slice A' M c') ∧ W.frozen? ⟨q, 0, none⟩ = false ∧ (W.setCell ⟨q, 0, none⟩ (.slice (some ⟨g3, 0, none⟩) N k3)).frozen? ⟨q, 1, none⟩ = false := by
  have h := hs.keep hb
  have hq3 : g3 ≠ q := by omega
  have hq7 : g7 ≠ q := by omega
  refine ⟨⟨⟨(h.bx.set 0 _).set 1 _, (h.rv.setOther (a := ⟨q, 0, none⟩) (Nat.ne_of_gt hqq) _).setOther (a := ⟨q, 1, none⟩) (Nat.ne_of_gt hqq) _, below_set (below_set h.bel h.far.1 _) h.far.1 _, h.far⟩, ?_, ?_, by omega, by omega⟩, (h.bx.set 0 _).cell 1, h.bx.frozen 0, (h.bx.set 0 _).frozen 1⟩
  · exact ((o3.setOther (a := ⟨q, 0, none⟩) hq3 _).setOther (a := ⟨q, 1, none⟩) hq3 _).vals
  · exact ((o7.setOther (a := ⟨q, 0, none⟩) hq7 _).setOther (a := ⟨q, 1, none⟩) hq7 _).vals
theorem jat_set4 {w : World} {g q : Nat} {l : List J2} (h : JAt w (some ⟨g, 0, none⟩) l) (hq : g ≠ q) (x y z t : Value) : JAt ((((w.setCell ⟨q, 0, none⟩ x).setCell ⟨q, 1, none⟩ y).setCell ⟨q, 2, none⟩ z).setCell ⟨q, 3, none⟩ t) (some ⟨g, 0, none⟩) l := by
  have s1 : ∀ (w : World) (i : Nat) (v : Value), Vals w (some ⟨g, 0, none⟩) (jc l) → Vals (w.setCell ⟨q, i, none⟩ v) (some ⟨g, 0, none⟩) (jc l) := fun w i v h hl => by
    obtain ⟨g', off, e, hg, hc⟩ := h hl
    injection e with e
    injection e with e1 e2
    subst e1 e2
    refine ⟨g, 0, rfl, by simpa using hg, fun j u hu => ?_⟩
    rw [World.cell?_setCell_other _ _ _ _ (fun e => hq (by injection e with e1; first | exact e1 | exact e1.symm))]
    exact hc j u hu
  exact s1 _ _ _ (s1 _ _ _ (s1 _ _ _ (s1 _ _ _ h)))
def ShopPost (w : World) (js qs : List J2) (b t : Int) (e : Ending) (w' : World) : Prop :=
  Below w.heap.size w w' ∧ ∃ g c g' c', e = .returned (.agg #[.slice (some ⟨g, 0, none⟩) js.length c, .slice (some ⟨g', 0, none⟩) qs.length c', .int .i64 b, .int .i64 t]) ∧ JAt w' (some ⟨g, 0, none⟩) js ∧ JAt w' (some ⟨g', 0, none⟩) qs

set_option maxHeartbeats 8000000 in
set_option maxRecDepth 100000 in
theorem shop_any (A A' : Option Addr) (c c' n m : Nat) (js qs : List J2) (bend trim : Int) (w : World) (hA : JAt w A js) (hA' : JAt w A' qs) (hn : n = js.length) (hm : m = qs.length) (hnc : n ≤ c) (hmc : m ≤ c') (hnil : A = none → c = 0) (hnil' : A' = none → c' = 0) :
    Calls Try.prog 42 #[.agg #[.slice A n c, .slice A' m c', .int .i64 bend, .int .i64 trim]] w (ShopPost w (js.take 66) (qs.take 66) bend trim) := by
  obtain ⟨i0, hi0, hz0, hz1, hz2⟩ := info_parts infoJ
  obtain ⟨i1, hj0, hj1, hj2, hj3⟩ := info_parts infoQ
  have hA1 : JAt w A (js.take 66) := by have := Vals.take hA (66 * 2); rw [jc_take] at this; exact this
  have hA2 : JAt w A' (qs.take 66) := by have := Vals.take hA' (66 * 2); rw [jc_take] at this; exact this
  obtain ⟨N, hN⟩ : ∃ N, N = (js.take 66).length := ⟨_, rfl⟩
  obtain ⟨M, hM⟩ : ∃ M, M = (qs.take 66).length := ⟨_, rfl⟩
  have hNn : N = if 66 < n then 66 else n := by rw [hN, hn, List.length_take]; split <;> omega
  have hMm : M = if 66 < m then 66 else m := by rw [hM, hm, List.length_take]; split <;> omega
  have hpos : 0 < n → ∃ ad, A = some ad := fun h => by
    obtain ⟨g, off, e, _⟩ := hA (by rw [jc_len]; omega)
    exact ⟨_, e⟩
  have hpos' : 0 < m → ∃ ad, A' = some ad := fun h => by
    obtain ⟨g, off, e, _⟩ := hA' (by rw [jc_len]; omega)
    exact ⟨_, e⟩
  have hN66 : N ≤ 66 := by rw [hNn]; split <;> omega
  have hM66 : M ≤ 66 := by rw [hMm]; split <;> omega
  have hNc : A = none → N = 0 ∧ c = 0 := fun h => by
    have := hnil h
    refine ⟨?_, this⟩
    rw [hNn]; split <;> omega
  have hMc : A' = none → M = 0 ∧ c' = 0 := fun h => by
    have := hnil' h
    refine ⟨?_, this⟩
    rw [hMm]; split <;> omega
  generalize js.take 66 = l1 at *
  generalize qs.take 66 = l2 at *
  have hst : ∃ W0, W0 = (w.alloc (.cells #[.slice A n c, .slice A' m c', .int .i64 bend, .int .i64 trim] 57)).alloc (.cells #[.slice none 0 0, .slice none 0 0, .int .i64 0, .int .i64 0] 57) ∧ SpM w W0 w.heap.size (w.heap.size + 1) (.slice A n c) (.slice A' m c') bend trim := by
    refine ⟨_, rfl, (Blk.new w 57 [.slice A n c, .slice A' m c', .int .i64 bend, .int .i64 trim]).alloc _, ?_, ((Below.refl _ _).alloc (Nat.le_refl _) _).alloc (by simp) _, Nat.le_refl _, by omega⟩
    have := Blk.new (w.alloc (.cells #[.slice A n c, .slice A' m c', .int .i64 bend, .int .i64 trim] 57)) 57 [.slice none 0 0, .slice none 0 0, .int .i64 0, .int .i64 0]
    simpa using this
  obtain ⟨W0, hW0, hS⟩ := hst
  have HW0 := Lib.hid hW0
  have HS := Lib.hid hS
  have HA1 := Lib.hid hA1
  have HA2 := Lib.hid hA2
  have HN := Lib.hid hN
  have HM := Lib.hid hM
  have HNN := Lib.hid hNn
  have HMM := Lib.hid hMm
  have HNC := Lib.hid hNc
  have HMC := Lib.hid hMc
  have HPO := Lib.hid hpos
  have HPO' := Lib.hid hpos'
  obtain ⟨q, hq⟩ : ∃ q, q = w.heap.size := ⟨_, rfl⟩
  obtain ⟨q1, hq1⟩ : ∃ q1, q1 = w.heap.size + 1 := ⟨_, rfl⟩
  rw [← hq1, ← hq] at HS
  have HQ := Lib.hid hq
  have HQ1 := Lib.hid hq1
  have hqq : q < q1 := by omega
  clear hA hA' hA1 hA2 hn hm hnil hnil' hN hM hNn hMm hpos hpos' hNc hMc hS hW0 hq hq1
  go_enter Try.func42, Try.ntmps42
  go_upto_region 1 with (fail)
  rw [← HW0.out, ← HQ1.out, ← HQ.out]
  have x0 : W0.cell? ⟨q, 0, none⟩ = some (.slice A n c) := HS.out.bx.cell 0
  go_upto_if 6 with (fail)
  go_cut [] from 3 (fun ww => SpM w ww q q1 (.slice A N c) (.slice A' m c') bend trim)
  case first =>
    by_cases h66 : 66 < n
    · have hNn := HNN.out
      rw [if_pos h66] at hNn
      subst hNn
      have d1 : decide (n > 66) = true := by simpa using h66
      have d1' : decide (66 < n) = true := by simpa using h66
      have d1'' : decide ((66 : Int) < (n : Int)) = true := by simp; omega
      have s1 : (66 : Nat) ≤ c := by omega
      have s2 : ¬ c < 66 := by omega
      have s3 : ¬ (c : Int) < 66 := by omega
      obtain ⟨ad, rfl⟩ := HPO.out (by omega)
      have f0 := HS.out.bx.frozen
      have hst : SpM w (W0.setCell ⟨q, 0, none⟩ (.slice (some ad) 66 c)) q q1 (.slice (some ad) 66 c) (.slice A' m c') bend trim := by
        have h := HS.out
        exact ⟨h.bx.set 0 _, h.rv.setOther (a := ⟨q, 0, none⟩) (Nat.ne_of_gt hqq) _, below_set h.bel h.far.1 _, h.far⟩
      have HST := Lib.hid hst
      clear hst
      rw [d1'']
      go_wp2_with (fail)
      go_meet
      case rel => exact HST.out
    · have hNn := HNN.out
      rw [if_neg h66] at hNn
      subst hNn
      have d1'' : decide ((66 : Int) < (N : Int)) = false := by simp; omega
      rw [d1'']
      go_wp2_with (fail)
      go_meet
      case rel => exact HS.out
  case rest =>
  clear HS HW0 HQ HQ1 x0
  have HS := Lib.hid hcut
  clear hcut
  have x1 : wc.cell? ⟨q, 1, none⟩ = some (.slice A' m c') := HS.out.bx.cell 1
  go_upto_if 14 with (fail)
  go_cut [] from 3 (fun ww => SpM w ww q q1 (.slice A N c) (.slice A' M c') bend trim)
  case first =>
    by_cases h66 : 66 < m
    · have hNn := HMM.out
      rw [if_pos h66] at hNn
      subst hNn
      have d1 : decide (m > 66) = true := by simpa using h66
      have d1' : decide (66 < m) = true := by simpa using h66
      have d1'' : decide ((66 : Int) < (m : Int)) = true := by simp; omega
      have s1 : (66 : Nat) ≤ c' := by omega
      have s2 : ¬ c' < 66 := by omega
      have s3 : ¬ (c' : Int) < 66 := by omega
      obtain ⟨ad, rfl⟩ := HPO'.out (by omega)
      have f0 := HS.out.bx.frozen
      have hst : SpM w (wc.setCell ⟨q, 1, none⟩ (.slice (some ad) 66 c')) q q1 (.slice A N c) (.slice (some ad) 66 c') bend trim := by
        have h := HS.out
        exact ⟨h.bx.set 1 _, h.rv.setOther (a := ⟨q, 1, none⟩) (Nat.ne_of_gt hqq) _, below_set h.bel h.far.1 _, h.far⟩
      have HST := Lib.hid hst
      clear hst
      rw [d1'']
      go_wp2_with (fail)
      go_meet
      case rel => exact HST.out
    · have hNn := HMM.out
      rw [if_neg h66] at hNn
      subst hNn
      have d1'' : decide ((66 : Int) < (M : Int)) = false := by simp; omega
      rw [d1'']
      go_wp2_with (fail)
      go_meet
      case rel => exact HS.out
  case rest =>
  clear HS x1
  have HS := Lib.hid hcut
  clear hcut
  have x0 : wc.cell? ⟨q, 0, none⟩ = some (.slice A N c) := HS.out.bx.cell 0
  have x1 : wc.cell? ⟨q, 1, none⟩ = some (.slice A' M c') := HS.out.bx.cell 1
  have HJ := Lib.hid (HA1.out.keep HS.out.bel)
  have HQ := Lib.hid (HA2.out.keep HS.out.bel)
  have HON := Lib.hid (jc_one l1)
  have HON2 := Lib.hid (jc_one l2)
  have HL1 : Hid ((jc l1).length = N * 2) := Lib.hid (by rw [jc_len, HN.out])
  have HL2 : Hid ((jc l2).length = M * 2) := Lib.hid (by rw [jc_len, HM.out])
  have hql : q < wc.heap.size := HS.out.bx.lt
  have hq1l : q1 < wc.heap.size := HS.out.rv.lt
  go_upto_region 5 with (fail)
  go_cut [] from 3 (fun ww => ∃ g k g' k', SpM w ww q q1 (.slice (some ⟨g, 0, none⟩) N k) (.slice (some ⟨g', 0, none⟩) M k') bend trim ∧ JAt ww (some ⟨g, 0, none⟩) l1 ∧ JAt ww (some ⟨g', 0, none⟩) l2 ∧ q1 < g ∧ q1 < g')
  case first =>
    have hcur : Below wc.heap.size wc wc.drew := (Below.refl _ _).drew
    refine wp_region_held_drew (S := (fun _ => True)) (by kernel_rfl) trivial (fun _ => ?_)
    generalize wc.drew = V at *
    refine wpAnyH_take (i := 1) (oi := { dst := some 20, op := Op.fieldAddr 57 (Operand.tmp 1) 0, type := 0, pos := "law.go:194", after := #[], guard := none }) (v := ?vq1) rfl (by kernel_rfl) (by kernel_rfl) (by kernel_rfl) (fun _ _ _ h => h) (Or.inl ⟨by rfl, ?yq1⟩) trivial ?rq1
    case yq1 => (intro w hSw; go_simp; (try with_reducible rfl))
    try simp only [Act.put, List.setIfInBounds_toArray, List.set_cons_zero, List.set_cons_succ]
    refine wpAnyH_take (i := 5) (oi := { dst := some 24, op := Op.fieldAddr 57 (Operand.tmp 1) 1, type := 0, pos := "law.go:194", after := #[], guard := none }) (v := ?vq2) rfl (by kernel_rfl) (by kernel_rfl) (by kernel_rfl) (fun _ _ _ h => h) (Or.inl ⟨by rfl, ?yq2⟩) trivial ?rq2
    case yq2 => (intro w hSw; go_simp; (try with_reducible rfl))
    try simp only [Act.put, List.setIfInBounds_toArray, List.set_cons_zero, List.set_cons_succ]
    refine wpAnyH_ready (rs := [0, 2, 4, 6]) (by kernel_rfl) (by simp) ?_
    refine AllReadyH.cons (o := { dst := some 19, op := Op.buildSlice 54 0 #[], type := 54, pos := "law.go:194", after := #[], guard := none }) rfl (fun K hK => ?_) ?_
    ·
     go_simp
     have hb0 : Blk 68 (V.alloc (.cells #[] 68)) V.heap.size [] := Blk.new V 68 []
     have hge0 : wc.heap.size ≤ V.heap.size := hcur.size
     replace hcur := hcur.alloc hcur.size (.cells #[] 68)
     refine hK.out _ _ trivial (fun _ => ?_)
     clear hK K
     generalize V.heap.size = h0 at *
     generalize V.alloc (.cells #[] 68) = Vz0 at *
     try simp only [Act.put, List.setIfInBounds_toArray, List.set_cons_zero, List.set_cons_succ]
     refine wpAnyH_ready (rs := [2, 4, 6]) (by kernel_rfl) (by simp) ?_
     refine AllReadyH.cons (o := { dst := some 21, op := Op.load 54 (Operand.tmp 20), type := 54, pos := "law.go:194", after := #[{ on := 1, ground := Ground.data }], guard := none }) rfl (fun K hK => ?_) ?_
     ·
      have xc : Vz0.cell? ⟨q, 0, none⟩ = some (.slice A N c) := (hcur.cell (p := ⟨q, 0, none⟩) hql).trans x0
      go_simp
      refine hK.out _ _ trivial (fun _ => ?_)
      clear hK K xc
      try simp only [Act.put, List.setIfInBounds_toArray, List.set_cons_zero, List.set_cons_succ]
      refine wpAnyH_ready (rs := [3, 4, 6]) (by kernel_rfl) (by simp) ?_
      refine AllReadyH.cons (o := { dst := some 22, op := Op.call { callee := Callee.builtin Builtin.append, args := #[Operand.tmp 19, Operand.tmp 21], argTypes := #[54, 54] }, type := 54, pos := "law.go:194", after := #[{ on := 0, ground := Ground.data }, { on := 2, ground := Ground.data }], guard := none }) rfl (fun K hK => ?_) ?_
      ·
       have hl0 : h0 < Vz0.heap.size := hb0.lt
       refine step_app rfl (.tmp 19) (.tmp 21) 54 rfl 68 i0 _ Try.underlying54 hi0 hz0 hz1 hz2 rfl h0 rfl hb0 A N c (jc l1) rfl HNC.out HL1.out (HJ.out.keep hcur) HON.out (Nat.le_trans hN66 (by omega)) (fun g3 k3 W3 hor3 hle3 hmx3 ow3 hgr => ?_)
       have hge : wc.heap.size ≤ Vz0.heap.size := hcur.size
       have hwg3 : wc.heap.size ≤ g3 := by rcases hor3 with e | e <;> omega
       replace hcur : Below wc.heap.size wc W3 := hcur.grown hgr hge (fun k hk => by injection hk with hk; omega)
       clear hgr hge
       refine hK.out _ _ trivial (fun _ => ?_)
       clear hK K hor3
       try simp only [Act.put, List.setIfInBounds_toArray, List.set_cons_zero, List.set_cons_succ]
       refine wpAnyH_ready (rs := [4, 6]) (by kernel_rfl) (by simp) ?_
       refine AllReadyH.cons (o := { dst := some 23, op := Op.buildSlice 55 0 #[], type := 55, pos := "law.go:194", after := #[], guard := none }) rfl (fun K hK => ?_) ?_
       ·
        go_simp
        have hb4 : Blk 66 (W3.alloc (.cells #[] 66)) W3.heap.size [] := Blk.new W3 66 []
        have hge4 : wc.heap.size ≤ W3.heap.size := hcur.size
        have hlo : g3 < W3.heap.size := ow3.lt
        replace ow3 := ow3.alloc (.cells #[] 66)
        replace hcur := hcur.alloc hcur.size (.cells #[] 66)
        refine hK.out _ _ trivial (fun _ => ?_)
        clear hK K
        generalize W3.heap.size = h4 at *
        generalize W3.alloc (.cells #[] 66) = W3z4 at *
        try simp only [Act.put, List.setIfInBounds_toArray, List.set_cons_zero, List.set_cons_succ]
        have hne3 : g3 ≠ h4 := Nat.ne_of_lt hlo
        refine wpAnyH_ready (rs := [6]) (by kernel_rfl) (by simp) ?_
        refine AllReadyH.cons (o := { dst := some 25, op := Op.load 55 (Operand.tmp 24), type := 55, pos := "law.go:194", after := #[{ on := 5, ground := Ground.data }], guard := none }) rfl (fun K hK => ?_) ?_
        ·
         have xc : W3z4.cell? ⟨q, 1, none⟩ = some (.slice A' M c') := (hcur.cell (p := ⟨q, 1, none⟩) hql).trans x1
         go_simp
         refine hK.out _ _ trivial (fun _ => ?_)
         clear hK K xc
         try simp only [Act.put, List.setIfInBounds_toArray, List.set_cons_zero, List.set_cons_succ]
         refine wpAnyH_take (i := 8) (oi := { dst := some 27, op := Op.fieldAddr 57 (Operand.tmp 1) 0, type := 0, pos := "law.go:194", after := #[{ on := 0, ground := Ground.phase }, { on := 1, ground := Ground.phase }, { on := 2, ground := Ground.phase }, { on := 3, ground := Ground.phase }, { on := 4, ground := Ground.textOnly Departure.lateStores }, { on := 5, ground := Ground.phase }, { on := 6, ground := Ground.phase }, { on := 7, ground := Ground.textOnly Departure.lateStoresUnsure }], guard := none }) (v := ?vq3) rfl (by kernel_rfl) (by kernel_rfl) (by kernel_rfl) (fun _ _ _ h => h) (Or.inl ⟨by rfl, ?yq3⟩) trivial ?rq3
         case yq3 => (intro w hSw; go_simp; (try with_reducible rfl))
         try simp only [Act.put, List.setIfInBounds_toArray, List.set_cons_zero, List.set_cons_succ]
         refine wpAnyH_ready (rs := [7]) (by kernel_rfl) (by simp) ?_
         refine AllReadyH.cons (o := { dst := some 26, op := Op.call { callee := Callee.builtin Builtin.append, args := #[Operand.tmp 23, Operand.tmp 25], argTypes := #[55, 55] }, type := 55, pos := "law.go:194", after := #[{ on := 4, ground := Ground.data }, { on := 6, ground := Ground.data }, { on := 3, ground := Ground.chain }], guard := none }) rfl (fun K hK => ?_) ?_
         ·
          refine step_app rfl (.tmp 23) (.tmp 25) 55 rfl 66 i1 _ Try.underlying55 hj0 hj1 hj2 hj3 rfl h4 rfl hb4 A' M c' (jc l2) rfl HMC.out HL2.out (HQ.out.keep hcur) HON2.out (Nat.le_trans hM66 (by omega)) (fun g7 k7 W7 hor7 hle7 hmx7 ow7 hgr => ?_)
          have hge : wc.heap.size ≤ W3z4.heap.size := hcur.size
          have hwg7 : wc.heap.size ≤ g7 := by rcases hor7 with e | e <;> omega
          replace ow3 := ow3.grown hgr (by simp only [ne_eq, Option.some.injEq]; omega)
          replace hcur : Below wc.heap.size wc W7 := hcur.grown hgr hge (fun k hk => by injection hk with hk; omega)
          clear hgr hge
          refine hK.out _ _ trivial (fun _ => ?_)
          clear hK K hor7
          try simp only [Act.put, List.setIfInBounds_toArray, List.set_cons_zero, List.set_cons_succ]
          have HREL := Lib.hid (shop_rel HS.out hcur ow3 ow7 hqq hql hq1l hwg3 hwg7)
          have z0 : W7.cell? ⟨q, 0, none⟩ = some (.slice A N c) := (hcur.cell (p := ⟨q, 0, none⟩) hql).trans x0
          have z1 : (W7.setCell ⟨q, 0, none⟩ (.slice (some ⟨g3, 0, none⟩) N k3)).cell? ⟨q, 1, none⟩ = some (.slice A' M c') := HREL.out.2.1
          have f0 : W7.frozen? ⟨q, 0, none⟩ = false := HREL.out.2.2.1
          have f1 : (W7.setCell ⟨q, 0, none⟩ (.slice (some ⟨g3, 0, none⟩) N k3)).frozen? ⟨q, 1, none⟩ = false := HREL.out.2.2.2
          refine wpAnyH_ready (rs := [9]) (by kernel_rfl) (by simp) ?_
          refine AllReadyH.cons (i := 9) rfl (fun K hK => ?_) AllReadyH.nil
          go_simp
          refine hK.out _ _ trivial (fun _ => ?_)
          clear hK K
          try simp only [Act.put, List.setIfInBounds_toArray, List.set_cons_zero, List.set_cons_succ]
          refine wpAnyH_take (i := 10) (oi := { dst := some 28, op := Op.fieldAddr 57 (Operand.tmp 1) 1, type := 0, pos := "law.go:194", after := #[{ on := 0, ground := Ground.phase }, { on := 1, ground := Ground.phase }, { on := 2, ground := Ground.phase }, { on := 3, ground := Ground.phase }, { on := 4, ground := Ground.phase }, { on := 5, ground := Ground.phase }, { on := 6, ground := Ground.phase }, { on := 7, ground := Ground.phase }, { on := 8, ground := Ground.phase }, { on := 9, ground := Ground.phase }], guard := none }) (v := ?vq4) rfl (by kernel_rfl) (by kernel_rfl) (by kernel_rfl) (fun _ _ _ h => h) (Or.inl ⟨by rfl, ?yq4⟩) trivial ?rq4
          case yq4 => (intro w hSw; go_simp; (try with_reducible rfl))
          try simp only [Act.put, List.setIfInBounds_toArray, List.set_cons_zero, List.set_cons_succ]
          refine wpAnyH_ready (rs := [11]) (by kernel_rfl) (by simp) ?_
          refine AllReadyH.cons (i := 11) rfl (fun K hK => ?_) AllReadyH.nil
          go_simp
          refine hK.out _ _ trivial (fun _ => ?_)
          clear hK K
          refine wpAnyH_done (by kernel_rfl) ?_ _
          go_wp2_with (fail)
          go_meet
          case rel => exact ⟨_, _, _, _, HREL.out.1⟩
         exact AllReadyH.nil
        exact AllReadyH.nil
       refine AllReadyH.cons (o := { dst := some 25, op := Op.load 55 (Operand.tmp 24), type := 55, pos := "law.go:194", after := #[{ on := 5, ground := Ground.data }], guard := none }) rfl (fun K hK => ?_) ?_
       ·
        have xc : W3.cell? ⟨q, 1, none⟩ = some (.slice A' M c') := (hcur.cell (p := ⟨q, 1, none⟩) hql).trans x1
        go_simp
        refine hK.out _ _ trivial (fun _ => ?_)
        clear hK K xc
        try simp only [Act.put, List.setIfInBounds_toArray, List.set_cons_zero, List.set_cons_succ]
        refine wpAnyH_take (i := 8) (oi := { dst := some 27, op := Op.fieldAddr 57 (Operand.tmp 1) 0, type := 0, pos := "law.go:194", after := #[{ on := 0, ground := Ground.phase }, { on := 1, ground := Ground.phase }, { on := 2, ground := Ground.phase }, { on := 3, ground := Ground.phase }, { on := 4, ground := Ground.textOnly Departure.lateStores }, { on := 5, ground := Ground.phase }, { on := 6, ground := Ground.phase }, { on := 7, ground := Ground.textOnly Departure.lateStoresUnsure }], guard := none }) (v := ?vq5) rfl (by kernel_rfl) (by kernel_rfl) (by kernel_rfl) (fun _ _ _ h => h) (Or.inl ⟨by rfl, ?yq5⟩) trivial ?rq5
        case yq5 => (intro w hSw; go_simp; (try with_reducible rfl))
        try simp only [Act.put, List.setIfInBounds_toArray, List.set_cons_zero, List.set_cons_succ]
        refine wpAnyH_ready (rs := [4]) (by kernel_rfl) (by simp) ?_
        refine AllReadyH.cons (o := { dst := some 23, op := Op.buildSlice 55 0 #[], type := 55, pos := "law.go:194", after := #[], guard := none }) rfl (fun K hK => ?_) ?_
        ·
         go_simp
         have hb4 : Blk 66 (W3.alloc (.cells #[] 66)) W3.heap.size [] := Blk.new W3 66 []
         have hge4 : wc.heap.size ≤ W3.heap.size := hcur.size
         have hlo : g3 < W3.heap.size := ow3.lt
         replace ow3 := ow3.alloc (.cells #[] 66)
         replace hcur := hcur.alloc hcur.size (.cells #[] 66)
         refine hK.out _ _ trivial (fun _ => ?_)
         clear hK K
         generalize W3.heap.size = h4 at *
         generalize W3.alloc (.cells #[] 66) = W3z4 at *
         try simp only [Act.put, List.setIfInBounds_toArray, List.set_cons_zero, List.set_cons_succ]
         have hne3 : g3 ≠ h4 := Nat.ne_of_lt hlo
         refine wpAnyH_ready (rs := [7]) (by kernel_rfl) (by simp) ?_
         refine AllReadyH.cons (o := { dst := some 26, op := Op.call { callee := Callee.builtin Builtin.append, args := #[Operand.tmp 23, Operand.tmp 25], argTypes := #[55, 55] }, type := 55, pos := "law.go:194", after := #[{ on := 4, ground := Ground.data }, { on := 6, ground := Ground.data }, { on := 3, ground := Ground.chain }], guard := none }) rfl (fun K hK => ?_) ?_
         ·
          refine step_app rfl (.tmp 23) (.tmp 25) 55 rfl 66 i1 _ Try.underlying55 hj0 hj1 hj2 hj3 rfl h4 rfl hb4 A' M c' (jc l2) rfl HMC.out HL2.out (HQ.out.keep hcur) HON2.out (Nat.le_trans hM66 (by omega)) (fun g7 k7 W7 hor7 hle7 hmx7 ow7 hgr => ?_)
          have hge : wc.heap.size ≤ W3z4.heap.size := hcur.size
          have hwg7 : wc.heap.size ≤ g7 := by rcases hor7 with e | e <;> omega
          replace ow3 := ow3.grown hgr (by simp only [ne_eq, Option.some.injEq]; omega)
          replace hcur : Below wc.heap.size wc W7 := hcur.grown hgr hge (fun k hk => by injection hk with hk; omega)
          clear hgr hge
          refine hK.out _ _ trivial (fun _ => ?_)
          clear hK K hor7
          try simp only [Act.put, List.setIfInBounds_toArray, List.set_cons_zero, List.set_cons_succ]
          have HREL := Lib.hid (shop_rel HS.out hcur ow3 ow7 hqq hql hq1l hwg3 hwg7)
          have z0 : W7.cell? ⟨q, 0, none⟩ = some (.slice A N c) := (hcur.cell (p := ⟨q, 0, none⟩) hql).trans x0
          have z1 : (W7.setCell ⟨q, 0, none⟩ (.slice (some ⟨g3, 0, none⟩) N k3)).cell? ⟨q, 1, none⟩ = some (.slice A' M c') := HREL.out.2.1
          have f0 : W7.frozen? ⟨q, 0, none⟩ = false := HREL.out.2.2.1
          have f1 : (W7.setCell ⟨q, 0, none⟩ (.slice (some ⟨g3, 0, none⟩) N k3)).frozen? ⟨q, 1, none⟩ = false := HREL.out.2.2.2
          refine wpAnyH_ready (rs := [9]) (by kernel_rfl) (by simp) ?_
          refine AllReadyH.cons (i := 9) rfl (fun K hK => ?_) AllReadyH.nil
          go_simp
          refine hK.out _ _ trivial (fun _ => ?_)
          clear hK K
          try simp only [Act.put, List.setIfInBounds_toArray, List.set_cons_zero, List.set_cons_succ]
          refine wpAnyH_take (i := 10) (oi := { dst := some 28, op := Op.fieldAddr 57 (Operand.tmp 1) 1, type := 0, pos := "law.go:194", after := #[{ on := 0, ground := Ground.phase }, { on := 1, ground := Ground.phase }, { on := 2, ground := Ground.phase }, { on := 3, ground := Ground.phase }, { on := 4, ground := Ground.phase }, { on := 5, ground := Ground.phase }, { on := 6, ground := Ground.phase }, { on := 7, ground := Ground.phase }, { on := 8, ground := Ground.phase }, { on := 9, ground := Ground.phase }], guard := none }) (v := ?vq6) rfl (by kernel_rfl) (by kernel_rfl) (by kernel_rfl) (fun _ _ _ h => h) (Or.inl ⟨by rfl, ?yq6⟩) trivial ?rq6
          case yq6 => (intro w hSw; go_simp; (try with_reducible rfl))
          try simp only [Act.put, List.setIfInBounds_toArray, List.set_cons_zero, List.set_cons_succ]
          refine wpAnyH_ready (rs := [11]) (by kernel_rfl) (by simp) ?_
          refine AllReadyH.cons (i := 11) rfl (fun K hK => ?_) AllReadyH.nil
          go_simp
          refine hK.out _ _ trivial (fun _ => ?_)
          clear hK K
          refine wpAnyH_done (by kernel_rfl) ?_ _
          go_wp2_with (fail)
          go_meet
          case rel => exact ⟨_, _, _, _, HREL.out.1⟩
         exact AllReadyH.nil
        exact AllReadyH.nil
       exact AllReadyH.nil
      refine AllReadyH.cons (o := { dst := some 23, op := Op.buildSlice 55 0 #[], type := 55, pos := "law.go:194", after := #[], guard := none }) rfl (fun K hK => ?_) ?_
      ·
       go_simp
       have hb4 : Blk 66 (Vz0.alloc (.cells #[] 66)) Vz0.heap.size [] := Blk.new Vz0 66 []
       have hge4 : wc.heap.size ≤ Vz0.heap.size := hcur.size
       have hlo : h0 < Vz0.heap.size := hb0.lt
       replace hb0 := hb0.alloc (.cells #[] 66)
       replace hcur := hcur.alloc hcur.size (.cells #[] 66)
       refine hK.out _ _ trivial (fun _ => ?_)
       clear hK K
       generalize Vz0.heap.size = h4 at *
       generalize Vz0.alloc (.cells #[] 66) = Vz0z4 at *
       try simp only [Act.put, List.setIfInBounds_toArray, List.set_cons_zero, List.set_cons_succ]
       have hne : h4 ≠ h0 := Nat.ne_of_gt hlo
       refine wpAnyH_ready (rs := [3, 6]) (by kernel_rfl) (by simp) ?_
       refine AllReadyH.cons (o := { dst := some 22, op := Op.call { callee := Callee.builtin Builtin.append, args := #[Operand.tmp 19, Operand.tmp 21], argTypes := #[54, 54] }, type := 54, pos := "law.go:194", after := #[{ on := 0, ground := Ground.data }, { on := 2, ground := Ground.data }], guard := none }) rfl (fun K hK => ?_) ?_
       ·
        have hl4 : h4 < Vz0z4.heap.size := hb4.lt
        have hl0 : h0 < Vz0z4.heap.size := hb0.lt
        refine step_app rfl (.tmp 19) (.tmp 21) 54 rfl 68 i0 _ Try.underlying54 hi0 hz0 hz1 hz2 rfl h0 rfl hb0 A N c (jc l1) rfl HNC.out HL1.out (HJ.out.keep hcur) HON.out (Nat.le_trans hN66 (by omega)) (fun g3 k3 W3 hor3 hle3 hmx3 ow3 hgr => ?_)
        have hge : wc.heap.size ≤ Vz0z4.heap.size := hcur.size
        have hwg3 : wc.heap.size ≤ g3 := by rcases hor3 with e | e <;> omega
        replace hb4 := hb4.grown hgr (by simp only [ne_eq, Option.some.injEq]; omega)
        have hne3 : g3 ≠ h4 := by rcases hor3 with e | e <;> omega
        replace hcur : Below wc.heap.size wc W3 := hcur.grown hgr hge (fun k hk => by injection hk with hk; omega)
        clear hgr hge
        refine hK.out _ _ trivial (fun _ => ?_)
        clear hK K hor3
        try simp only [Act.put, List.setIfInBounds_toArray, List.set_cons_zero, List.set_cons_succ]
        refine wpAnyH_ready (rs := [6]) (by kernel_rfl) (by simp) ?_
        refine AllReadyH.cons (o := { dst := some 25, op := Op.load 55 (Operand.tmp 24), type := 55, pos := "law.go:194", after := #[{ on := 5, ground := Ground.data }], guard := none }) rfl (fun K hK => ?_) ?_
        ·
         have xc : W3.cell? ⟨q, 1, none⟩ = some (.slice A' M c') := (hcur.cell (p := ⟨q, 1, none⟩) hql).trans x1
         go_simp
         refine hK.out _ _ trivial (fun _ => ?_)
         clear hK K xc
         try simp only [Act.put, List.setIfInBounds_toArray, List.set_cons_zero, List.set_cons_succ]
         refine wpAnyH_take (i := 8) (oi := { dst := some 27, op := Op.fieldAddr 57 (Operand.tmp 1) 0, type := 0, pos := "law.go:194", after := #[{ on := 0, ground := Ground.phase }, { on := 1, ground := Ground.phase }, { on := 2, ground := Ground.phase }, { on := 3, ground := Ground.phase }, { on := 4, ground := Ground.textOnly Departure.lateStores }, { on := 5, ground := Ground.phase }, { on := 6, ground := Ground.phase }, { on := 7, ground := Ground.textOnly Departure.lateStoresUnsure }], guard := none }) (v := ?vq7) rfl (by kernel_rfl) (by kernel_rfl) (by kernel_rfl) (fun _ _ _ h => h) (Or.inl ⟨by rfl, ?yq7⟩) trivial ?rq7
         case yq7 => (intro w hSw; go_simp; (try with_reducible rfl))
         try simp only [Act.put, List.setIfInBounds_toArray, List.set_cons_zero, List.set_cons_succ]
         refine wpAnyH_ready (rs := [7]) (by kernel_rfl) (by simp) ?_
         refine AllReadyH.cons (o := { dst := some 26, op := Op.call { callee := Callee.builtin Builtin.append, args := #[Operand.tmp 23, Operand.tmp 25], argTypes := #[55, 55] }, type := 55, pos := "law.go:194", after := #[{ on := 4, ground := Ground.data }, { on := 6, ground := Ground.data }, { on := 3, ground := Ground.chain }], guard := none }) rfl (fun K hK => ?_) ?_
         ·
          refine step_app rfl (.tmp 23) (.tmp 25) 55 rfl 66 i1 _ Try.underlying55 hj0 hj1 hj2 hj3 rfl h4 rfl hb4 A' M c' (jc l2) rfl HMC.out HL2.out (HQ.out.keep hcur) HON2.out (Nat.le_trans hM66 (by omega)) (fun g7 k7 W7 hor7 hle7 hmx7 ow7 hgr => ?_)
          have hge : wc.heap.size ≤ W3.heap.size := hcur.size
          have hwg7 : wc.heap.size ≤ g7 := by rcases hor7 with e | e <;> omega
          replace ow3 := ow3.grown hgr (by simp only [ne_eq, Option.some.injEq]; omega)
          replace hcur : Below wc.heap.size wc W7 := hcur.grown hgr hge (fun k hk => by injection hk with hk; omega)
          clear hgr hge
          refine hK.out _ _ trivial (fun _ => ?_)
          clear hK K hor7
          try simp only [Act.put, List.setIfInBounds_toArray, List.set_cons_zero, List.set_cons_succ]
          have HREL := Lib.hid (shop_rel HS.out hcur ow3 ow7 hqq hql hq1l hwg3 hwg7)
          have z0 : W7.cell? ⟨q, 0, none⟩ = some (.slice A N c) := (hcur.cell (p := ⟨q, 0, none⟩) hql).trans x0
          have z1 : (W7.setCell ⟨q, 0, none⟩ (.slice (some ⟨g3, 0, none⟩) N k3)).cell? ⟨q, 1, none⟩ = some (.slice A' M c') := HREL.out.2.1
          have f0 : W7.frozen? ⟨q, 0, none⟩ = false := HREL.out.2.2.1
          have f1 : (W7.setCell ⟨q, 0, none⟩ (.slice (some ⟨g3, 0, none⟩) N k3)).frozen? ⟨q, 1, none⟩ = false := HREL.out.2.2.2
          refine wpAnyH_ready (rs := [9]) (by kernel_rfl) (by simp) ?_
          refine AllReadyH.cons (i := 9) rfl (fun K hK => ?_) AllReadyH.nil
          go_simp
          refine hK.out _ _ trivial (fun _ => ?_)
          clear hK K
          try simp only [Act.put, List.setIfInBounds_toArray, List.set_cons_zero, List.set_cons_succ]
          refine wpAnyH_take (i := 10) (oi := { dst := some 28, op := Op.fieldAddr 57 (Operand.tmp 1) 1, type := 0, pos := "law.go:194", after := #[{ on := 0, ground := Ground.phase }, { on := 1, ground := Ground.phase }, { on := 2, ground := Ground.phase }, { on := 3, ground := Ground.phase }, { on := 4, ground := Ground.phase }, { on := 5, ground := Ground.phase }, { on := 6, ground := Ground.phase }, { on := 7, ground := Ground.phase }, { on := 8, ground := Ground.phase }, { on := 9, ground := Ground.phase }], guard := none }) (v := ?vq8) rfl (by kernel_rfl) (by kernel_rfl) (by kernel_rfl) (fun _ _ _ h => h) (Or.inl ⟨by rfl, ?yq8⟩) trivial ?rq8
          case yq8 => (intro w hSw; go_simp; (try with_reducible rfl))
          try simp only [Act.put, List.setIfInBounds_toArray, List.set_cons_zero, List.set_cons_succ]
          refine wpAnyH_ready (rs := [11]) (by kernel_rfl) (by simp) ?_
          refine AllReadyH.cons (i := 11) rfl (fun K hK => ?_) AllReadyH.nil
          go_simp
          refine hK.out _ _ trivial (fun _ => ?_)
          clear hK K
          refine wpAnyH_done (by kernel_rfl) ?_ _
          go_wp2_with (fail)
          go_meet
          case rel => exact ⟨_, _, _, _, HREL.out.1⟩
         exact AllReadyH.nil
        exact AllReadyH.nil
       refine AllReadyH.cons (o := { dst := some 25, op := Op.load 55 (Operand.tmp 24), type := 55, pos := "law.go:194", after := #[{ on := 5, ground := Ground.data }], guard := none }) rfl (fun K hK => ?_) ?_
       ·
        have xc : Vz0z4.cell? ⟨q, 1, none⟩ = some (.slice A' M c') := (hcur.cell (p := ⟨q, 1, none⟩) hql).trans x1
        go_simp
        refine hK.out _ _ trivial (fun _ => ?_)
        clear hK K xc
        try simp only [Act.put, List.setIfInBounds_toArray, List.set_cons_zero, List.set_cons_succ]
        refine wpAnyH_ready (rs := [3]) (by kernel_rfl) (by simp) ?_
        refine AllReadyH.cons (o := { dst := some 22, op := Op.call { callee := Callee.builtin Builtin.append, args := #[Operand.tmp 19, Operand.tmp 21], argTypes := #[54, 54] }, type := 54, pos := "law.go:194", after := #[{ on := 0, ground := Ground.data }, { on := 2, ground := Ground.data }], guard := none }) rfl (fun K hK => ?_) ?_
        ·
         have hl4 : h4 < Vz0z4.heap.size := hb4.lt
         have hl0 : h0 < Vz0z4.heap.size := hb0.lt
         refine step_app rfl (.tmp 19) (.tmp 21) 54 rfl 68 i0 _ Try.underlying54 hi0 hz0 hz1 hz2 rfl h0 rfl hb0 A N c (jc l1) rfl HNC.out HL1.out (HJ.out.keep hcur) HON.out (Nat.le_trans hN66 (by omega)) (fun g3 k3 W3 hor3 hle3 hmx3 ow3 hgr => ?_)
         have hge : wc.heap.size ≤ Vz0z4.heap.size := hcur.size
         have hwg3 : wc.heap.size ≤ g3 := by rcases hor3 with e | e <;> omega
         replace hb4 := hb4.grown hgr (by simp only [ne_eq, Option.some.injEq]; omega)
         have hne3 : g3 ≠ h4 := by rcases hor3 with e | e <;> omega
         replace hcur : Below wc.heap.size wc W3 := hcur.grown hgr hge (fun k hk => by injection hk with hk; omega)
         clear hgr hge
         refine hK.out _ _ trivial (fun _ => ?_)
         clear hK K hor3
         try simp only [Act.put, List.setIfInBounds_toArray, List.set_cons_zero, List.set_cons_succ]
         refine wpAnyH_take (i := 8) (oi := { dst := some 27, op := Op.fieldAddr 57 (Operand.tmp 1) 0, type := 0, pos := "law.go:194", after := #[{ on := 0, ground := Ground.phase }, { on := 1, ground := Ground.phase }, { on := 2, ground := Ground.phase }, { on := 3, ground := Ground.phase }, { on := 4, ground := Ground.textOnly Departure.lateStores }, { on := 5, ground := Ground.phase }, { on := 6, ground := Ground.phase }, { on := 7, ground := Ground.textOnly Departure.lateStoresUnsure }], guard := none }) (v := ?vq9) rfl (by kernel_rfl) (by kernel_rfl) (by kernel_rfl) (fun _ _ _ h => h) (Or.inl ⟨by rfl, ?yq9⟩) trivial ?rq9
         case yq9 => (intro w hSw; go_simp; (try with_reducible rfl))
         try simp only [Act.put, List.setIfInBounds_toArray, List.set_cons_zero, List.set_cons_succ]
         refine wpAnyH_ready (rs := [7]) (by kernel_rfl) (by simp) ?_
         refine AllReadyH.cons (o := { dst := some 26, op := Op.call { callee := Callee.builtin Builtin.append, args := #[Operand.tmp 23, Operand.tmp 25], argTypes := #[55, 55] }, type := 55, pos := "law.go:194", after := #[{ on := 4, ground := Ground.data }, { on := 6, ground := Ground.data }, { on := 3, ground := Ground.chain }], guard := none }) rfl (fun K hK => ?_) ?_
         ·
          refine step_app rfl (.tmp 23) (.tmp 25) 55 rfl 66 i1 _ Try.underlying55 hj0 hj1 hj2 hj3 rfl h4 rfl hb4 A' M c' (jc l2) rfl HMC.out HL2.out (HQ.out.keep hcur) HON2.out (Nat.le_trans hM66 (by omega)) (fun g7 k7 W7 hor7 hle7 hmx7 ow7 hgr => ?_)
          have hge : wc.heap.size ≤ W3.heap.size := hcur.size
          have hwg7 : wc.heap.size ≤ g7 := by rcases hor7 with e | e <;> omega
          replace ow3 := ow3.grown hgr (by simp only [ne_eq, Option.some.injEq]; omega)
          replace hcur : Below wc.heap.size wc W7 := hcur.grown hgr hge (fun k hk => by injection hk with hk; omega)
          clear hgr hge
          refine hK.out _ _ trivial (fun _ => ?_)
          clear hK K hor7
          try simp only [Act.put, List.setIfInBounds_toArray, List.set_cons_zero, List.set_cons_succ]
          have HREL := Lib.hid (shop_rel HS.out hcur ow3 ow7 hqq hql hq1l hwg3 hwg7)
          have z0 : W7.cell? ⟨q, 0, none⟩ = some (.slice A N c) := (hcur.cell (p := ⟨q, 0, none⟩) hql).trans x0
          have z1 : (W7.setCell ⟨q, 0, none⟩ (.slice (some ⟨g3, 0, none⟩) N k3)).cell? ⟨q, 1, none⟩ = some (.slice A' M c') := HREL.out.2.1
          have f0 : W7.frozen? ⟨q, 0, none⟩ = false := HREL.out.2.2.1
          have f1 : (W7.setCell ⟨q, 0, none⟩ (.slice (some ⟨g3, 0, none⟩) N k3)).frozen? ⟨q, 1, none⟩ = false := HREL.out.2.2.2
          refine wpAnyH_ready (rs := [9]) (by kernel_rfl) (by simp) ?_
          refine AllReadyH.cons (i := 9) rfl (fun K hK => ?_) AllReadyH.nil
          go_simp
          refine hK.out _ _ trivial (fun _ => ?_)
          clear hK K
          try simp only [Act.put, List.setIfInBounds_toArray, List.set_cons_zero, List.set_cons_succ]
          refine wpAnyH_take (i := 10) (oi := { dst := some 28, op := Op.fieldAddr 57 (Operand.tmp 1) 1, type := 0, pos := "law.go:194", after := #[{ on := 0, ground := Ground.phase }, { on := 1, ground := Ground.phase }, { on := 2, ground := Ground.phase }, { on := 3, ground := Ground.phase }, { on := 4, ground := Ground.phase }, { on := 5, ground := Ground.phase }, { on := 6, ground := Ground.phase }, { on := 7, ground := Ground.phase }, { on := 8, ground := Ground.phase }, { on := 9, ground := Ground.phase }], guard := none }) (v := ?vq10) rfl (by kernel_rfl) (by kernel_rfl) (by kernel_rfl) (fun _ _ _ h => h) (Or.inl ⟨by rfl, ?yq10⟩) trivial ?rq10
          case yq10 => (intro w hSw; go_simp; (try with_reducible rfl))
          try simp only [Act.put, List.setIfInBounds_toArray, List.set_cons_zero, List.set_cons_succ]
          refine wpAnyH_ready (rs := [11]) (by kernel_rfl) (by simp) ?_
          refine AllReadyH.cons (i := 11) rfl (fun K hK => ?_) AllReadyH.nil
          go_simp
          refine hK.out _ _ trivial (fun _ => ?_)
          clear hK K
          refine wpAnyH_done (by kernel_rfl) ?_ _
          go_wp2_with (fail)
          go_meet
          case rel => exact ⟨_, _, _, _, HREL.out.1⟩
         exact AllReadyH.nil
        exact AllReadyH.nil
       exact AllReadyH.nil
      refine AllReadyH.cons (o := { dst := some 25, op := Op.load 55 (Operand.tmp 24), type := 55, pos := "law.go:194", after := #[{ on := 5, ground := Ground.data }], guard := none }) rfl (fun K hK => ?_) ?_
      ·
       have xc : Vz0.cell? ⟨q, 1, none⟩ = some (.slice A' M c') := (hcur.cell (p := ⟨q, 1, none⟩) hql).trans x1
       go_simp
       refine hK.out _ _ trivial (fun _ => ?_)
       clear hK K xc
       try simp only [Act.put, List.setIfInBounds_toArray, List.set_cons_zero, List.set_cons_succ]
       refine wpAnyH_ready (rs := [3, 4]) (by kernel_rfl) (by simp) ?_
       refine AllReadyH.cons (o := { dst := some 22, op := Op.call { callee := Callee.builtin Builtin.append, args := #[Operand.tmp 19, Operand.tmp 21], argTypes := #[54, 54] }, type := 54, pos := "law.go:194", after := #[{ on := 0, ground := Ground.data }, { on := 2, ground := Ground.data }], guard := none }) rfl (fun K hK => ?_) ?_
       ·
        have hl0 : h0 < Vz0.heap.size := hb0.lt
        refine step_app rfl (.tmp 19) (.tmp 21) 54 rfl 68 i0 _ Try.underlying54 hi0 hz0 hz1 hz2 rfl h0 rfl hb0 A N c (jc l1) rfl HNC.out HL1.out (HJ.out.keep hcur) HON.out (Nat.le_trans hN66 (by omega)) (fun g3 k3 W3 hor3 hle3 hmx3 ow3 hgr => ?_)
        have hge : wc.heap.size ≤ Vz0.heap.size := hcur.size
        have hwg3 : wc.heap.size ≤ g3 := by rcases hor3 with e | e <;> omega
        replace hcur : Below wc.heap.size wc W3 := hcur.grown hgr hge (fun k hk => by injection hk with hk; omega)
        clear hgr hge
        refine hK.out _ _ trivial (fun _ => ?_)
        clear hK K hor3
        try simp only [Act.put, List.setIfInBounds_toArray, List.set_cons_zero, List.set_cons_succ]
        refine wpAnyH_take (i := 8) (oi := { dst := some 27, op := Op.fieldAddr 57 (Operand.tmp 1) 0, type := 0, pos := "law.go:194", after := #[{ on := 0, ground := Ground.phase }, { on := 1, ground := Ground.phase }, { on := 2, ground := Ground.phase }, { on := 3, ground := Ground.phase }, { on := 4, ground := Ground.textOnly Departure.lateStores }, { on := 5, ground := Ground.phase }, { on := 6, ground := Ground.phase }, { on := 7, ground := Ground.textOnly Departure.lateStoresUnsure }], guard := none }) (v := ?vq11) rfl (by kernel_rfl) (by kernel_rfl) (by kernel_rfl) (fun _ _ _ h => h) (Or.inl ⟨by rfl, ?yq11⟩) trivial ?rq11
        case yq11 => (intro w hSw; go_simp; (try with_reducible rfl))
        try simp only [Act.put, List.setIfInBounds_toArray, List.set_cons_zero, List.set_cons_succ]
        refine wpAnyH_ready (rs := [4]) (by kernel_rfl) (by simp) ?_
        refine AllReadyH.cons (o := { dst := some 23, op := Op.buildSlice 55 0 #[], type := 55, pos := "law.go:194", after := #[], guard := none }) rfl (fun K hK => ?_) ?_
        ·
         go_simp
         have hb4 : Blk 66 (W3.alloc (.cells #[] 66)) W3.heap.size [] := Blk.new W3 66 []
         have hge4 : wc.heap.size ≤ W3.heap.size := hcur.size
         have hlo : g3 < W3.heap.size := ow3.lt
         replace ow3 := ow3.alloc (.cells #[] 66)
         replace hcur := hcur.alloc hcur.size (.cells #[] 66)
         refine hK.out _ _ trivial (fun _ => ?_)
         clear hK K
         generalize W3.heap.size = h4 at *
         generalize W3.alloc (.cells #[] 66) = W3z4 at *
         try simp only [Act.put, List.setIfInBounds_toArray, List.set_cons_zero, List.set_cons_succ]
         have hne3 : g3 ≠ h4 := Nat.ne_of_lt hlo
         refine wpAnyH_ready (rs := [7]) (by kernel_rfl) (by simp) ?_
         refine AllReadyH.cons (o := { dst := some 26, op := Op.call { callee := Callee.builtin Builtin.append, args := #[Operand.tmp 23, Operand.tmp 25], argTypes := #[55, 55] }, type := 55, pos := "law.go:194", after := #[{ on := 4, ground := Ground.data }, { on := 6, ground := Ground.data }, { on := 3, ground := Ground.chain }], guard := none }) rfl (fun K hK => ?_) ?_
         ·
          refine step_app rfl (.tmp 23) (.tmp 25) 55 rfl 66 i1 _ Try.underlying55 hj0 hj1 hj2 hj3 rfl h4 rfl hb4 A' M c' (jc l2) rfl HMC.out HL2.out (HQ.out.keep hcur) HON2.out (Nat.le_trans hM66 (by omega)) (fun g7 k7 W7 hor7 hle7 hmx7 ow7 hgr => ?_)
          have hge : wc.heap.size ≤ W3z4.heap.size := hcur.size
          have hwg7 : wc.heap.size ≤ g7 := by rcases hor7 with e | e <;> omega
          replace ow3 := ow3.grown hgr (by simp only [ne_eq, Option.some.injEq]; omega)
          replace hcur : Below wc.heap.size wc W7 := hcur.grown hgr hge (fun k hk => by injection hk with hk; omega)
          clear hgr hge
          refine hK.out _ _ trivial (fun _ => ?_)
          clear hK K hor7
          try simp only [Act.put, List.setIfInBounds_toArray, List.set_cons_zero, List.set_cons_succ]
          have HREL := Lib.hid (shop_rel HS.out hcur ow3 ow7 hqq hql hq1l hwg3 hwg7)
          have z0 : W7.cell? ⟨q, 0, none⟩ = some (.slice A N c) := (hcur.cell (p := ⟨q, 0, none⟩) hql).trans x0
          have z1 : (W7.setCell ⟨q, 0, none⟩ (.slice (some ⟨g3, 0, none⟩) N k3)).cell? ⟨q, 1, none⟩ = some (.slice A' M c') := HREL.out.2.1
          have f0 : W7.frozen? ⟨q, 0, none⟩ = false := HREL.out.2.2.1
          have f1 : (W7.setCell ⟨q, 0, none⟩ (.slice (some ⟨g3, 0, none⟩) N k3)).frozen? ⟨q, 1, none⟩ = false := HREL.out.2.2.2
          refine wpAnyH_ready (rs := [9]) (by kernel_rfl) (by simp) ?_
          refine AllReadyH.cons (i := 9) rfl (fun K hK => ?_) AllReadyH.nil
          go_simp
          refine hK.out _ _ trivial (fun _ => ?_)
          clear hK K
          try simp only [Act.put, List.setIfInBounds_toArray, List.set_cons_zero, List.set_cons_succ]
          refine wpAnyH_take (i := 10) (oi := { dst := some 28, op := Op.fieldAddr 57 (Operand.tmp 1) 1, type := 0, pos := "law.go:194", after := #[{ on := 0, ground := Ground.phase }, { on := 1, ground := Ground.phase }, { on := 2, ground := Ground.phase }, { on := 3, ground := Ground.phase }, { on := 4, ground := Ground.phase }, { on := 5, ground := Ground.phase }, { on := 6, ground := Ground.phase }, { on := 7, ground := Ground.phase }, { on := 8, ground := Ground.phase }, { on := 9, ground := Ground.phase }], guard := none }) (v := ?vq12) rfl (by kernel_rfl) (by kernel_rfl) (by kernel_rfl) (fun _ _ _ h => h) (Or.inl ⟨by rfl, ?yq12⟩) trivial ?rq12
          case yq12 => (intro w hSw; go_simp; (try with_reducible rfl))
          try simp only [Act.put, List.setIfInBounds_toArray, List.set_cons_zero, List.set_cons_succ]
          refine wpAnyH_ready (rs := [11]) (by kernel_rfl) (by simp) ?_
          refine AllReadyH.cons (i := 11) rfl (fun K hK => ?_) AllReadyH.nil
          go_simp
          refine hK.out _ _ trivial (fun _ => ?_)
          clear hK K
          refine wpAnyH_done (by kernel_rfl) ?_ _
          go_wp2_with (fail)
          go_meet
          case rel => exact ⟨_, _, _, _, HREL.out.1⟩
         exact AllReadyH.nil
        exact AllReadyH.nil
       refine AllReadyH.cons (o := { dst := some 23, op := Op.buildSlice 55 0 #[], type := 55, pos := "law.go:194", after := #[], guard := none }) rfl (fun K hK => ?_) ?_
       ·
        go_simp
        have hb4 : Blk 66 (Vz0.alloc (.cells #[] 66)) Vz0.heap.size [] := Blk.new Vz0 66 []
        have hge4 : wc.heap.size ≤ Vz0.heap.size := hcur.size
        have hlo : h0 < Vz0.heap.size := hb0.lt
        replace hb0 := hb0.alloc (.cells #[] 66)
        replace hcur := hcur.alloc hcur.size (.cells #[] 66)
        refine hK.out _ _ trivial (fun _ => ?_)
        clear hK K
        generalize Vz0.heap.size = h4 at *
        generalize Vz0.alloc (.cells #[] 66) = Vz0z4 at *
        try simp only [Act.put, List.setIfInBounds_toArray, List.set_cons_zero, List.set_cons_succ]
        have hne : h4 ≠ h0 := Nat.ne_of_gt hlo
        refine wpAnyH_ready (rs := [3]) (by kernel_rfl) (by simp) ?_
        refine AllReadyH.cons (o := { dst := some 22, op := Op.call { callee := Callee.builtin Builtin.append, args := #[Operand.tmp 19, Operand.tmp 21], argTypes := #[54, 54] }, type := 54, pos := "law.go:194", after := #[{ on := 0, ground := Ground.data }, { on := 2, ground := Ground.data }], guard := none }) rfl (fun K hK => ?_) ?_
        ·
         have hl4 : h4 < Vz0z4.heap.size := hb4.lt
         have hl0 : h0 < Vz0z4.heap.size := hb0.lt
         refine step_app rfl (.tmp 19) (.tmp 21) 54 rfl 68 i0 _ Try.underlying54 hi0 hz0 hz1 hz2 rfl h0 rfl hb0 A N c (jc l1) rfl HNC.out HL1.out (HJ.out.keep hcur) HON.out (Nat.le_trans hN66 (by omega)) (fun g3 k3 W3 hor3 hle3 hmx3 ow3 hgr => ?_)
         have hge : wc.heap.size ≤ Vz0z4.heap.size := hcur.size
         have hwg3 : wc.heap.size ≤ g3 := by rcases hor3 with e | e <;> omega
         replace hb4 := hb4.grown hgr (by simp only [ne_eq, Option.some.injEq]; omega)
         have hne3 : g3 ≠ h4 := by rcases hor3 with e | e <;> omega
         replace hcur : Below wc.heap.size wc W3 := hcur.grown hgr hge (fun k hk => by injection hk with hk; omega)
         clear hgr hge
         refine hK.out _ _ trivial (fun _ => ?_)
         clear hK K hor3
         try simp only [Act.put, List.setIfInBounds_toArray, List.set_cons_zero, List.set_cons_succ]
         refine wpAnyH_take (i := 8) (oi := { dst := some 27, op := Op.fieldAddr 57 (Operand.tmp 1) 0, type := 0, pos := "law.go:194", after := #[{ on := 0, ground := Ground.phase }, { on := 1, ground := Ground.phase }, { on := 2, ground := Ground.phase }, { on := 3, ground := Ground.phase }, { on := 4, ground := Ground.textOnly Departure.lateStores }, { on := 5, ground := Ground.phase }, { on := 6, ground := Ground.phase }, { on := 7, ground := Ground.textOnly Departure.lateStoresUnsure }], guard := none }) (v := ?vq13) rfl (by kernel_rfl) (by kernel_rfl) (by kernel_rfl) (fun _ _ _ h => h) (Or.inl ⟨by rfl, ?yq13⟩) trivial ?rq13
         case yq13 => (intro w hSw; go_simp; (try with_reducible rfl))
         try simp only [Act.put, List.setIfInBounds_toArray, List.set_cons_zero, List.set_cons_succ]
         refine wpAnyH_ready (rs := [7]) (by kernel_rfl) (by simp) ?_
         refine AllReadyH.cons (o := { dst := some 26, op := Op.call { callee := Callee.builtin Builtin.append, args := #[Operand.tmp 23, Operand.tmp 25], argTypes := #[55, 55] }, type := 55, pos := "law.go:194", after := #[{ on := 4, ground := Ground.data }, { on := 6, ground := Ground.data }, { on := 3, ground := Ground.chain }], guard := none }) rfl (fun K hK => ?_) ?_
         ·
          refine step_app rfl (.tmp 23) (.tmp 25) 55 rfl 66 i1 _ Try.underlying55 hj0 hj1 hj2 hj3 rfl h4 rfl hb4 A' M c' (jc l2) rfl HMC.out HL2.out (HQ.out.keep hcur) HON2.out (Nat.le_trans hM66 (by omega)) (fun g7 k7 W7 hor7 hle7 hmx7 ow7 hgr => ?_)
          have hge : wc.heap.size ≤ W3.heap.size := hcur.size
          have hwg7 : wc.heap.size ≤ g7 := by rcases hor7 with e | e <;> omega
          replace ow3 := ow3.grown hgr (by simp only [ne_eq, Option.some.injEq]; omega)
          replace hcur : Below wc.heap.size wc W7 := hcur.grown hgr hge (fun k hk => by injection hk with hk; omega)
          clear hgr hge
          refine hK.out _ _ trivial (fun _ => ?_)
          clear hK K hor7
          try simp only [Act.put, List.setIfInBounds_toArray, List.set_cons_zero, List.set_cons_succ]
          have HREL := Lib.hid (shop_rel HS.out hcur ow3 ow7 hqq hql hq1l hwg3 hwg7)
          have z0 : W7.cell? ⟨q, 0, none⟩ = some (.slice A N c) := (hcur.cell (p := ⟨q, 0, none⟩) hql).trans x0
          have z1 : (W7.setCell ⟨q, 0, none⟩ (.slice (some ⟨g3, 0, none⟩) N k3)).cell? ⟨q, 1, none⟩ = some (.slice A' M c') := HREL.out.2.1
          have f0 : W7.frozen? ⟨q, 0, none⟩ = false := HREL.out.2.2.1
          have f1 : (W7.setCell ⟨q, 0, none⟩ (.slice (some ⟨g3, 0, none⟩) N k3)).frozen? ⟨q, 1, none⟩ = false := HREL.out.2.2.2
          refine wpAnyH_ready (rs := [9]) (by kernel_rfl) (by simp) ?_
          refine AllReadyH.cons (i := 9) rfl (fun K hK => ?_) AllReadyH.nil
          go_simp
          refine hK.out _ _ trivial (fun _ => ?_)
          clear hK K
          try simp only [Act.put, List.setIfInBounds_toArray, List.set_cons_zero, List.set_cons_succ]
          refine wpAnyH_take (i := 10) (oi := { dst := some 28, op := Op.fieldAddr 57 (Operand.tmp 1) 1, type := 0, pos := "law.go:194", after := #[{ on := 0, ground := Ground.phase }, { on := 1, ground := Ground.phase }, { on := 2, ground := Ground.phase }, { on := 3, ground := Ground.phase }, { on := 4, ground := Ground.phase }, { on := 5, ground := Ground.phase }, { on := 6, ground := Ground.phase }, { on := 7, ground := Ground.phase }, { on := 8, ground := Ground.phase }, { on := 9, ground := Ground.phase }], guard := none }) (v := ?vq14) rfl (by kernel_rfl) (by kernel_rfl) (by kernel_rfl) (fun _ _ _ h => h) (Or.inl ⟨by rfl, ?yq14⟩) trivial ?rq14
          case yq14 => (intro w hSw; go_simp; (try with_reducible rfl))
          try simp only [Act.put, List.setIfInBounds_toArray, List.set_cons_zero, List.set_cons_succ]
          refine wpAnyH_ready (rs := [11]) (by kernel_rfl) (by simp) ?_
          refine AllReadyH.cons (i := 11) rfl (fun K hK => ?_) AllReadyH.nil
          go_simp
          refine hK.out _ _ trivial (fun _ => ?_)
          clear hK K
          refine wpAnyH_done (by kernel_rfl) ?_ _
          go_wp2_with (fail)
          go_meet
          case rel => exact ⟨_, _, _, _, HREL.out.1⟩
         exact AllReadyH.nil
        exact AllReadyH.nil
       exact AllReadyH.nil
      exact AllReadyH.nil
     refine AllReadyH.cons (o := { dst := some 23, op := Op.buildSlice 55 0 #[], type := 55, pos := "law.go:194", after := #[], guard := none }) rfl (fun K hK => ?_) ?_
     ·
      go_simp
      have hb4 : Blk 66 (Vz0.alloc (.cells #[] 66)) Vz0.heap.size [] := Blk.new Vz0 66 []
      have hge4 : wc.heap.size ≤ Vz0.heap.size := hcur.size
      have hlo : h0 < Vz0.heap.size := hb0.lt
      replace hb0 := hb0.alloc (.cells #[] 66)
      replace hcur := hcur.alloc hcur.size (.cells #[] 66)
      refine hK.out _ _ trivial (fun _ => ?_)
      clear hK K
      generalize Vz0.heap.size = h4 at *
      generalize Vz0.alloc (.cells #[] 66) = Vz0z4 at *
      try simp only [Act.put, List.setIfInBounds_toArray, List.set_cons_zero, List.set_cons_succ]
      have hne : h4 ≠ h0 := Nat.ne_of_gt hlo
      refine wpAnyH_ready (rs := [2, 6]) (by kernel_rfl) (by simp) ?_
      refine AllReadyH.cons (o := { dst := some 21, op := Op.load 54 (Operand.tmp 20), type := 54, pos := "law.go:194", after := #[{ on := 1, ground := Ground.data }], guard := none }) rfl (fun K hK => ?_) ?_
      ·
       have xc : Vz0z4.cell? ⟨q, 0, none⟩ = some (.slice A N c) := (hcur.cell (p := ⟨q, 0, none⟩) hql).trans x0
       go_simp
       refine hK.out _ _ trivial (fun _ => ?_)
       clear hK K xc
       try simp only [Act.put, List.setIfInBounds_toArray, List.set_cons_zero, List.set_cons_succ]
       refine wpAnyH_ready (rs := [3, 6]) (by kernel_rfl) (by simp) ?_
       refine AllReadyH.cons (o := { dst := some 22, op := Op.call { callee := Callee.builtin Builtin.append, args := #[Operand.tmp 19, Operand.tmp 21], argTypes := #[54, 54] }, type := 54, pos := "law.go:194", after := #[{ on := 0, ground := Ground.data }, { on := 2, ground := Ground.data }], guard := none }) rfl (fun K hK => ?_) ?_
       ·
        have hl4 : h4 < Vz0z4.heap.size := hb4.lt
        have hl0 : h0 < Vz0z4.heap.size := hb0.lt
        refine step_app rfl (.tmp 19) (.tmp 21) 54 rfl 68 i0 _ Try.underlying54 hi0 hz0 hz1 hz2 rfl h0 rfl hb0 A N c (jc l1) rfl HNC.out HL1.out (HJ.out.keep hcur) HON.out (Nat.le_trans hN66 (by omega)) (fun g3 k3 W3 hor3 hle3 hmx3 ow3 hgr => ?_)
        have hge : wc.heap.size ≤ Vz0z4.heap.size := hcur.size
        have hwg3 : wc.heap.size ≤ g3 := by rcases hor3 with e | e <;> omega
        replace hb4 := hb4.grown hgr (by simp only [ne_eq, Option.some.injEq]; omega)
        have hne3 : g3 ≠ h4 := by rcases hor3 with e | e <;> omega
        replace hcur : Below wc.heap.size wc W3 := hcur.grown hgr hge (fun k hk => by injection hk with hk; omega)
        clear hgr hge
        refine hK.out _ _ trivial (fun _ => ?_)
        clear hK K hor3
        try simp only [Act.put, List.setIfInBounds_toArray, List.set_cons_zero, List.set_cons_succ]
        refine wpAnyH_ready (rs := [6]) (by kernel_rfl) (by simp) ?_
        refine AllReadyH.cons (o := { dst := some 25, op := Op.load 55 (Operand.tmp 24), type := 55, pos := "law.go:194", after := #[{ on := 5, ground := Ground.data }], guard := none }) rfl (fun K hK => ?_) ?_
        ·
         have xc : W3.cell? ⟨q, 1, none⟩ = some (.slice A' M c') := (hcur.cell (p := ⟨q, 1, none⟩) hql).trans x1
         go_simp
         refine hK.out _ _ trivial (fun _ => ?_)
         clear hK K xc
         try simp only [Act.put, List.setIfInBounds_toArray, List.set_cons_zero, List.set_cons_succ]
         refine wpAnyH_take (i := 8) (oi := { dst := some 27, op := Op.fieldAddr 57 (Operand.tmp 1) 0, type := 0, pos := "law.go:194", after := #[{ on := 0, ground := Ground.phase }, { on := 1, ground := Ground.phase }, { on := 2, ground := Ground.phase }, { on := 3, ground := Ground.phase }, { on := 4, ground := Ground.textOnly Departure.lateStores }, { on := 5, ground := Ground.phase }, { on := 6, ground := Ground.phase }, { on := 7, ground := Ground.textOnly Departure.lateStoresUnsure }], guard := none }) (v := ?vq15) rfl (by kernel_rfl) (by kernel_rfl) (by kernel_rfl) (fun _ _ _ h => h) (Or.inl ⟨by rfl, ?yq15⟩) trivial ?rq15
         case yq15 => (intro w hSw; go_simp; (try with_reducible rfl))
         try simp only [Act.put, List.setIfInBounds_toArray, List.set_cons_zero, List.set_cons_succ]
         refine wpAnyH_ready (rs := [7]) (by kernel_rfl) (by simp) ?_
         refine AllReadyH.cons (o := { dst := some 26, op := Op.call { callee := Callee.builtin Builtin.append, args := #[Operand.tmp 23, Operand.tmp 25], argTypes := #[55, 55] }, type := 55, pos := "law.go:194", after := #[{ on := 4, ground := Ground.data }, { on := 6, ground := Ground.data }, { on := 3, ground := Ground.chain }], guard := none }) rfl (fun K hK => ?_) ?_
         ·
          refine step_app rfl (.tmp 23) (.tmp 25) 55 rfl 66 i1 _ Try.underlying55 hj0 hj1 hj2 hj3 rfl h4 rfl hb4 A' M c' (jc l2) rfl HMC.out HL2.out (HQ.out.keep hcur) HON2.out (Nat.le_trans hM66 (by omega)) (fun g7 k7 W7 hor7 hle7 hmx7 ow7 hgr => ?_)
          have hge : wc.heap.size ≤ W3.heap.size := hcur.size
          have hwg7 : wc.heap.size ≤ g7 := by rcases hor7 with e | e <;> omega
          replace ow3 := ow3.grown hgr (by simp only [ne_eq, Option.some.injEq]; omega)
          replace hcur : Below wc.heap.size wc W7 := hcur.grown hgr hge (fun k hk => by injection hk with hk; omega)
          clear hgr hge
          refine hK.out _ _ trivial (fun _ => ?_)
          clear hK K hor7
          try simp only [Act.put, List.setIfInBounds_toArray, List.set_cons_zero, List.set_cons_succ]
          have HREL := Lib.hid (shop_rel HS.out hcur ow3 ow7 hqq hql hq1l hwg3 hwg7)
          have z0 : W7.cell? ⟨q, 0, none⟩ = some (.slice A N c) := (hcur.cell (p := ⟨q, 0, none⟩) hql).trans x0
          have z1 : (W7.setCell ⟨q, 0, none⟩ (.slice (some ⟨g3, 0, none⟩) N k3)).cell? ⟨q, 1, none⟩ = some (.slice A' M c') := HREL.out.2.1
          have f0 : W7.frozen? ⟨q, 0, none⟩ = false := HREL.out.2.2.1
          have f1 : (W7.setCell ⟨q, 0, none⟩ (.slice (some ⟨g3, 0, none⟩) N k3)).frozen? ⟨q, 1, none⟩ = false := HREL.out.2.2.2
          refine wpAnyH_ready (rs := [9]) (by kernel_rfl) (by simp) ?_
          refine AllReadyH.cons (i := 9) rfl (fun K hK => ?_) AllReadyH.nil
          go_simp
          refine hK.out _ _ trivial (fun _ => ?_)
          clear hK K
          try simp only [Act.put, List.setIfInBounds_toArray, List.set_cons_zero, List.set_cons_succ]
          refine wpAnyH_take (i := 10) (oi := { dst := some 28, op := Op.fieldAddr 57 (Operand.tmp 1) 1, type := 0, pos := "law.go:194", after := #[{ on := 0, ground := Ground.phase }, { on := 1, ground := Ground.phase }, { on := 2, ground := Ground.phase }, { on := 3, ground := Ground.phase }, { on := 4, ground := Ground.phase }, { on := 5, ground := Ground.phase }, { on := 6, ground := Ground.phase }, { on := 7, ground := Ground.phase }, { on := 8, ground := Ground.phase }, { on := 9, ground := Ground.phase }], guard := none }) (v := ?vq16) rfl (by kernel_rfl) (by kernel_rfl) (by kernel_rfl) (fun _ _ _ h => h) (Or.inl ⟨by rfl, ?yq16⟩) trivial ?rq16
          case yq16 => (intro w hSw; go_simp; (try with_reducible rfl))
          try simp only [Act.put, List.setIfInBounds_toArray, List.set_cons_zero, List.set_cons_succ]
          refine wpAnyH_ready (rs := [11]) (by kernel_rfl) (by simp) ?_
          refine AllReadyH.cons (i := 11) rfl (fun K hK => ?_) AllReadyH.nil
          go_simp
          refine hK.out _ _ trivial (fun _ => ?_)
          clear hK K
          refine wpAnyH_done (by kernel_rfl) ?_ _
          go_wp2_with (fail)
          go_meet
          case rel => exact ⟨_, _, _, _, HREL.out.1⟩
         exact AllReadyH.nil
        exact AllReadyH.nil
       refine AllReadyH.cons (o := { dst := some 25, op := Op.load 55 (Operand.tmp 24), type := 55, pos := "law.go:194", after := #[{ on := 5, ground := Ground.data }], guard := none }) rfl (fun K hK => ?_) ?_
       ·
        have xc : Vz0z4.cell? ⟨q, 1, none⟩ = some (.slice A' M c') := (hcur.cell (p := ⟨q, 1, none⟩) hql).trans x1
        go_simp
        refine hK.out _ _ trivial (fun _ => ?_)
        clear hK K xc
        try simp only [Act.put, List.setIfInBounds_toArray, List.set_cons_zero, List.set_cons_succ]
        refine wpAnyH_ready (rs := [3]) (by kernel_rfl) (by simp) ?_
        refine AllReadyH.cons (o := { dst := some 22, op := Op.call { callee := Callee.builtin Builtin.append, args := #[Operand.tmp 19, Operand.tmp 21], argTypes := #[54, 54] }, type := 54, pos := "law.go:194", after := #[{ on := 0, ground := Ground.data }, { on := 2, ground := Ground.data }], guard := none }) rfl (fun K hK => ?_) ?_
        ·
         have hl4 : h4 < Vz0z4.heap.size := hb4.lt
         have hl0 : h0 < Vz0z4.heap.size := hb0.lt
         refine step_app rfl (.tmp 19) (.tmp 21) 54 rfl 68 i0 _ Try.underlying54 hi0 hz0 hz1 hz2 rfl h0 rfl hb0 A N c (jc l1) rfl HNC.out HL1.out (HJ.out.keep hcur) HON.out (Nat.le_trans hN66 (by omega)) (fun g3 k3 W3 hor3 hle3 hmx3 ow3 hgr => ?_)
         have hge : wc.heap.size ≤ Vz0z4.heap.size := hcur.size
         have hwg3 : wc.heap.size ≤ g3 := by rcases hor3 with e | e <;> omega
         replace hb4 := hb4.grown hgr (by simp only [ne_eq, Option.some.injEq]; omega)
         have hne3 : g3 ≠ h4 := by rcases hor3 with e | e <;> omega
         replace hcur : Below wc.heap.size wc W3 := hcur.grown hgr hge (fun k hk => by injection hk with hk; omega)
         clear hgr hge
         refine hK.out _ _ trivial (fun _ => ?_)
         clear hK K hor3
         try simp only [Act.put, List.setIfInBounds_toArray, List.set_cons_zero, List.set_cons_succ]
         refine wpAnyH_take (i := 8) (oi := { dst := some 27, op := Op.fieldAddr 57 (Operand.tmp 1) 0, type := 0, pos := "law.go:194", after := #[{ on := 0, ground := Ground.phase }, { on := 1, ground := Ground.phase }, { on := 2, ground := Ground.phase }, { on := 3, ground := Ground.phase }, { on := 4, ground := Ground.textOnly Departure.lateStores }, { on := 5, ground := Ground.phase }, { on := 6, ground := Ground.phase }, { on := 7, ground := Ground.textOnly Departure.lateStoresUnsure }], guard := none }) (v := ?vq17) rfl (by kernel_rfl) (by kernel_rfl) (by kernel_rfl) (fun _ _ _ h => h) (Or.inl ⟨by rfl, ?yq17⟩) trivial ?rq17
         case yq17 => (intro w hSw; go_simp; (try with_reducible rfl))
         try simp only [Act.put, List.setIfInBounds_toArray, List.set_cons_zero, List.set_cons_succ]
         refine wpAnyH_ready (rs := [7]) (by kernel_rfl) (by simp) ?_
         refine AllReadyH.cons (o := { dst := some 26, op := Op.call { callee := Callee.builtin Builtin.append, args := #[Operand.tmp 23, Operand.tmp 25], argTypes := #[55, 55] }, type := 55, pos := "law.go:194", after := #[{ on := 4, ground := Ground.data }, { on := 6, ground := Ground.data }, { on := 3, ground := Ground.chain }], guard := none }) rfl (fun K hK => ?_) ?_
         ·
          refine step_app rfl (.tmp 23) (.tmp 25) 55 rfl 66 i1 _ Try.underlying55 hj0 hj1 hj2 hj3 rfl h4 rfl hb4 A' M c' (jc l2) rfl HMC.out HL2.out (HQ.out.keep hcur) HON2.out (Nat.le_trans hM66 (by omega)) (fun g7 k7 W7 hor7 hle7 hmx7 ow7 hgr => ?_)
          have hge : wc.heap.size ≤ W3.heap.size := hcur.size
          have hwg7 : wc.heap.size ≤ g7 := by rcases hor7 with e | e <;> omega
          replace ow3 := ow3.grown hgr (by simp only [ne_eq, Option.some.injEq]; omega)
          replace hcur : Below wc.heap.size wc W7 := hcur.grown hgr hge (fun k hk => by injection hk with hk; omega)
          clear hgr hge
          refine hK.out _ _ trivial (fun _ => ?_)
          clear hK K hor7
          try simp only [Act.put, List.setIfInBounds_toArray, List.set_cons_zero, List.set_cons_succ]
          have HREL := Lib.hid (shop_rel HS.out hcur ow3 ow7 hqq hql hq1l hwg3 hwg7)
          have z0 : W7.cell? ⟨q, 0, none⟩ = some (.slice A N c) := (hcur.cell (p := ⟨q, 0, none⟩) hql).trans x0
          have z1 : (W7.setCell ⟨q, 0, none⟩ (.slice (some ⟨g3, 0, none⟩) N k3)).cell? ⟨q, 1, none⟩ = some (.slice A' M c') := HREL.out.2.1
          have f0 : W7.frozen? ⟨q, 0, none⟩ = false := HREL.out.2.2.1
          have f1 : (W7.setCell ⟨q, 0, none⟩ (.slice (some ⟨g3, 0, none⟩) N k3)).frozen? ⟨q, 1, none⟩ = false := HREL.out.2.2.2
          refine wpAnyH_ready (rs := [9]) (by kernel_rfl) (by simp) ?_
          refine AllReadyH.cons (i := 9) rfl (fun K hK => ?_) AllReadyH.nil
          go_simp
          refine hK.out _ _ trivial (fun _ => ?_)
          clear hK K
          try simp only [Act.put, List.setIfInBounds_toArray, List.set_cons_zero, List.set_cons_succ]
          refine wpAnyH_take (i := 10) (oi := { dst := some 28, op := Op.fieldAddr 57 (Operand.tmp 1) 1, type := 0, pos := "law.go:194", after := #[{ on := 0, ground := Ground.phase }, { on := 1, ground := Ground.phase }, { on := 2, ground := Ground.phase }, { on := 3, ground := Ground.phase }, { on := 4, ground := Ground.phase }, { on := 5, ground := Ground.phase }, { on := 6, ground := Ground.phase }, { on := 7, ground := Ground.phase }, { on := 8, ground := Ground.phase }, { on := 9, ground := Ground.phase }], guard := none }) (v := ?vq18) rfl (by kernel_rfl) (by kernel_rfl) (by kernel_rfl) (fun _ _ _ h => h) (Or.inl ⟨by rfl, ?yq18⟩) trivial ?rq18
          case yq18 => (intro w hSw; go_simp; (try with_reducible rfl))
          try simp only [Act.put, List.setIfInBounds_toArray, List.set_cons_zero, List.set_cons_succ]
          refine wpAnyH_ready (rs := [11]) (by kernel_rfl) (by simp) ?_
          refine AllReadyH.cons (i := 11) rfl (fun K hK => ?_) AllReadyH.nil
          go_simp
          refine hK.out _ _ trivial (fun _ => ?_)
          clear hK K
          refine wpAnyH_done (by kernel_rfl) ?_ _
          go_wp2_with (fail)
          go_meet
          case rel => exact ⟨_, _, _, _, HREL.out.1⟩
         exact AllReadyH.nil
        exact AllReadyH.nil
       exact AllReadyH.nil
      refine AllReadyH.cons (o := { dst := some 25, op := Op.load 55 (Operand.tmp 24), type := 55, pos := "law.go:194", after := #[{ on := 5, ground := Ground.data }], guard := none }) rfl (fun K hK => ?_) ?_
      ·
       have xc : Vz0z4.cell? ⟨q, 1, none⟩ = some (.slice A' M c') := (hcur.cell (p := ⟨q, 1, none⟩) hql).trans x1
       go_simp
       refine hK.out _ _ trivial (fun _ => ?_)
       clear hK K xc
       try simp only [Act.put, List.setIfInBounds_toArray, List.set_cons_zero, List.set_cons_succ]
       refine wpAnyH_ready (rs := [2]) (by kernel_rfl) (by simp) ?_
       refine AllReadyH.cons (o := { dst := some 21, op := Op.load 54 (Operand.tmp 20), type := 54, pos := "law.go:194", after := #[{ on := 1, ground := Ground.data }], guard := none }) rfl (fun K hK => ?_) ?_
       ·
        have xc : Vz0z4.cell? ⟨q, 0, none⟩ = some (.slice A N c) := (hcur.cell (p := ⟨q, 0, none⟩) hql).trans x0
        go_simp
        refine hK.out _ _ trivial (fun _ => ?_)
        clear hK K xc
        try simp only [Act.put, List.setIfInBounds_toArray, List.set_cons_zero, List.set_cons_succ]
        refine wpAnyH_ready (rs := [3]) (by kernel_rfl) (by simp) ?_
        refine AllReadyH.cons (o := { dst := some 22, op := Op.call { callee := Callee.builtin Builtin.append, args := #[Operand.tmp 19, Operand.tmp 21], argTypes := #[54, 54] }, type := 54, pos := "law.go:194", after := #[{ on := 0, ground := Ground.data }, { on := 2, ground := Ground.data }], guard := none }) rfl (fun K hK => ?_) ?_
        ·
         have hl4 : h4 < Vz0z4.heap.size := hb4.lt
         have hl0 : h0 < Vz0z4.heap.size := hb0.lt
         refine step_app rfl (.tmp 19) (.tmp 21) 54 rfl 68 i0 _ Try.underlying54 hi0 hz0 hz1 hz2 rfl h0 rfl hb0 A N c (jc l1) rfl HNC.out HL1.out (HJ.out.keep hcur) HON.out (Nat.le_trans hN66 (by omega)) (fun g3 k3 W3 hor3 hle3 hmx3 ow3 hgr => ?_)
         have hge : wc.heap.size ≤ Vz0z4.heap.size := hcur.size
         have hwg3 : wc.heap.size ≤ g3 := by rcases hor3 with e | e <;> omega
         replace hb4 := hb4.grown hgr (by simp only [ne_eq, Option.some.injEq]; omega)
         have hne3 : g3 ≠ h4 := by rcases hor3 with e | e <;> omega
         replace hcur : Below wc.heap.size wc W3 := hcur.grown hgr hge (fun k hk => by injection hk with hk; omega)
         clear hgr hge
         refine hK.out _ _ trivial (fun _ => ?_)
         clear hK K hor3
         try simp only [Act.put, List.setIfInBounds_toArray, List.set_cons_zero, List.set_cons_succ]
         refine wpAnyH_take (i := 8) (oi := { dst := some 27, op := Op.fieldAddr 57 (Operand.tmp 1) 0, type := 0, pos := "law.go:194", after := #[{ on := 0, ground := Ground.phase }, { on := 1, ground := Ground.phase }, { on := 2, ground := Ground.phase }, { on := 3, ground := Ground.phase }, { on := 4, ground := Ground.textOnly Departure.lateStores }, { on := 5, ground := Ground.phase }, { on := 6, ground := Ground.phase }, { on := 7, ground := Ground.textOnly Departure.lateStoresUnsure }], guard := none }) (v := ?vq19) rfl (by kernel_rfl) (by kernel_rfl) (by kernel_rfl) (fun _ _ _ h => h) (Or.inl ⟨by rfl, ?yq19⟩) trivial ?rq19
         case yq19 => (intro w hSw; go_simp; (try with_reducible rfl))
         try simp only [Act.put, List.setIfInBounds_toArray, List.set_cons_zero, List.set_cons_succ]
         refine wpAnyH_ready (rs := [7]) (by kernel_rfl) (by simp) ?_
         refine AllReadyH.cons (o := { dst := some 26, op := Op.call { callee := Callee.builtin Builtin.append, args := #[Operand.tmp 23, Operand.tmp 25], argTypes := #[55, 55] }, type := 55, pos := "law.go:194", after := #[{ on := 4, ground := Ground.data }, { on := 6, ground := Ground.data }, { on := 3, ground := Ground.chain }], guard := none }) rfl (fun K hK => ?_) ?_
         ·
          refine step_app rfl (.tmp 23) (.tmp 25) 55 rfl 66 i1 _ Try.underlying55 hj0 hj1 hj2 hj3 rfl h4 rfl hb4 A' M c' (jc l2) rfl HMC.out HL2.out (HQ.out.keep hcur) HON2.out (Nat.le_trans hM66 (by omega)) (fun g7 k7 W7 hor7 hle7 hmx7 ow7 hgr => ?_)
          have hge : wc.heap.size ≤ W3.heap.size := hcur.size
          have hwg7 : wc.heap.size ≤ g7 := by rcases hor7 with e | e <;> omega
          replace ow3 := ow3.grown hgr (by simp only [ne_eq, Option.some.injEq]; omega)
          replace hcur : Below wc.heap.size wc W7 := hcur.grown hgr hge (fun k hk => by injection hk with hk; omega)
          clear hgr hge
          refine hK.out _ _ trivial (fun _ => ?_)
          clear hK K hor7
          try simp only [Act.put, List.setIfInBounds_toArray, List.set_cons_zero, List.set_cons_succ]
          have HREL := Lib.hid (shop_rel HS.out hcur ow3 ow7 hqq hql hq1l hwg3 hwg7)
          have z0 : W7.cell? ⟨q, 0, none⟩ = some (.slice A N c) := (hcur.cell (p := ⟨q, 0, none⟩) hql).trans x0
          have z1 : (W7.setCell ⟨q, 0, none⟩ (.slice (some ⟨g3, 0, none⟩) N k3)).cell? ⟨q, 1, none⟩ = some (.slice A' M c') := HREL.out.2.1
          have f0 : W7.frozen? ⟨q, 0, none⟩ = false := HREL.out.2.2.1
          have f1 : (W7.setCell ⟨q, 0, none⟩ (.slice (some ⟨g3, 0, none⟩) N k3)).frozen? ⟨q, 1, none⟩ = false := HREL.out.2.2.2
          refine wpAnyH_ready (rs := [9]) (by kernel_rfl) (by simp) ?_
          refine AllReadyH.cons (i := 9) rfl (fun K hK => ?_) AllReadyH.nil
          go_simp
          refine hK.out _ _ trivial (fun _ => ?_)
          clear hK K
          try simp only [Act.put, List.setIfInBounds_toArray, List.set_cons_zero, List.set_cons_succ]
          refine wpAnyH_take (i := 10) (oi := { dst := some 28, op := Op.fieldAddr 57 (Operand.tmp 1) 1, type := 0, pos := "law.go:194", after := #[{ on := 0, ground := Ground.phase }, { on := 1, ground := Ground.phase }, { on := 2, ground := Ground.phase }, { on := 3, ground := Ground.phase }, { on := 4, ground := Ground.phase }, { on := 5, ground := Ground.phase }, { on := 6, ground := Ground.phase }, { on := 7, ground := Ground.phase }, { on := 8, ground := Ground.phase }, { on := 9, ground := Ground.phase }], guard := none }) (v := ?vq20) rfl (by kernel_rfl) (by kernel_rfl) (by kernel_rfl) (fun _ _ _ h => h) (Or.inl ⟨by rfl, ?yq20⟩) trivial ?rq20
          case yq20 => (intro w hSw; go_simp; (try with_reducible rfl))
          try simp only [Act.put, List.setIfInBounds_toArray, List.set_cons_zero, List.set_cons_succ]
          refine wpAnyH_ready (rs := [11]) (by kernel_rfl) (by simp) ?_
          refine AllReadyH.cons (i := 11) rfl (fun K hK => ?_) AllReadyH.nil
          go_simp
          refine hK.out _ _ trivial (fun _ => ?_)
          clear hK K
          refine wpAnyH_done (by kernel_rfl) ?_ _
          go_wp2_with (fail)
          go_meet
          case rel => exact ⟨_, _, _, _, HREL.out.1⟩
         exact AllReadyH.nil
        exact AllReadyH.nil
       exact AllReadyH.nil
      exact AllReadyH.nil
     refine AllReadyH.cons (o := { dst := some 25, op := Op.load 55 (Operand.tmp 24), type := 55, pos := "law.go:194", after := #[{ on := 5, ground := Ground.data }], guard := none }) rfl (fun K hK => ?_) ?_
     ·
      have xc : Vz0.cell? ⟨q, 1, none⟩ = some (.slice A' M c') := (hcur.cell (p := ⟨q, 1, none⟩) hql).trans x1
      go_simp
      refine hK.out _ _ trivial (fun _ => ?_)
      clear hK K xc
      try simp only [Act.put, List.setIfInBounds_toArray, List.set_cons_zero, List.set_cons_succ]
      refine wpAnyH_ready (rs := [2, 4]) (by kernel_rfl) (by simp) ?_
      refine AllReadyH.cons (o := { dst := some 21, op := Op.load 54 (Operand.tmp 20), type := 54, pos := "law.go:194", after := #[{ on := 1, ground := Ground.data }], guard := none }) rfl (fun K hK => ?_) ?_
      ·
       have xc : Vz0.cell? ⟨q, 0, none⟩ = some (.slice A N c) := (hcur.cell (p := ⟨q, 0, none⟩) hql).trans x0
       go_simp
       refine hK.out _ _ trivial (fun _ => ?_)
       clear hK K xc
       try simp only [Act.put, List.setIfInBounds_toArray, List.set_cons_zero, List.set_cons_succ]
       refine wpAnyH_ready (rs := [3, 4]) (by kernel_rfl) (by simp) ?_
       refine AllReadyH.cons (o := { dst := some 22, op := Op.call { callee := Callee.builtin Builtin.append, args := #[Operand.tmp 19, Operand.tmp 21], argTypes := #[54, 54] }, type := 54, pos := "law.go:194", after := #[{ on := 0, ground := Ground.data }, { on := 2, ground := Ground.data }], guard := none }) rfl (fun K hK => ?_) ?_
       ·
        have hl0 : h0 < Vz0.heap.size := hb0.lt
        refine step_app rfl (.tmp 19) (.tmp 21) 54 rfl 68 i0 _ Try.underlying54 hi0 hz0 hz1 hz2 rfl h0 rfl hb0 A N c (jc l1) rfl HNC.out HL1.out (HJ.out.keep hcur) HON.out (Nat.le_trans hN66 (by omega)) (fun g3 k3 W3 hor3 hle3 hmx3 ow3 hgr => ?_)
        have hge : wc.heap.size ≤ Vz0.heap.size := hcur.size
        have hwg3 : wc.heap.size ≤ g3 := by rcases hor3 with e | e <;> omega
        replace hcur : Below wc.heap.size wc W3 := hcur.grown hgr hge (fun k hk => by injection hk with hk; omega)
        clear hgr hge
        refine hK.out _ _ trivial (fun _ => ?_)
        clear hK K hor3
        try simp only [Act.put, List.setIfInBounds_toArray, List.set_cons_zero, List.set_cons_succ]
        refine wpAnyH_take (i := 8) (oi := { dst := some 27, op := Op.fieldAddr 57 (Operand.tmp 1) 0, type := 0, pos := "law.go:194", after := #[{ on := 0, ground := Ground.phase }, { on := 1, ground := Ground.phase }, { on := 2, ground := Ground.phase }, { on := 3, ground := Ground.phase }, { on := 4, ground := Ground.textOnly Departure.lateStores }, { on := 5, ground := Ground.phase }, { on := 6, ground := Ground.phase }, { on := 7, ground := Ground.textOnly Departure.lateStoresUnsure }], guard := none }) (v := ?vq21) rfl (by kernel_rfl) (by kernel_rfl) (by kernel_rfl) (fun _ _ _ h => h) (Or.inl ⟨by rfl, ?yq21⟩) trivial ?rq21
        case yq21 => (intro w hSw; go_simp; (try with_reducible rfl))
        try simp only [Act.put, List.setIfInBounds_toArray, List.set_cons_zero, List.set_cons_succ]
        refine wpAnyH_ready (rs := [4]) (by kernel_rfl) (by simp) ?_
        refine AllReadyH.cons (o := { dst := some 23, op := Op.buildSlice 55 0 #[], type := 55, pos := "law.go:194", after := #[], guard := none }) rfl (fun K hK => ?_) ?_
        ·
         go_simp
         have hb4 : Blk 66 (W3.alloc (.cells #[] 66)) W3.heap.size [] := Blk.new W3 66 []
         have hge4 : wc.heap.size ≤ W3.heap.size := hcur.size
         have hlo : g3 < W3.heap.size := ow3.lt
         replace ow3 := ow3.alloc (.cells #[] 66)
         replace hcur := hcur.alloc hcur.size (.cells #[] 66)
         refine hK.out _ _ trivial (fun _ => ?_)
         clear hK K
         generalize W3.heap.size = h4 at *
         generalize W3.alloc (.cells #[] 66) = W3z4 at *
         try simp only [Act.put, List.setIfInBounds_toArray, List.set_cons_zero, List.set_cons_succ]
         have hne3 : g3 ≠ h4 := Nat.ne_of_lt hlo
         refine wpAnyH_ready (rs := [7]) (by kernel_rfl) (by simp) ?_
         refine AllReadyH.cons (o := { dst := some 26, op := Op.call { callee := Callee.builtin Builtin.append, args := #[Operand.tmp 23, Operand.tmp 25], argTypes := #[55, 55] }, type := 55, pos := "law.go:194", after := #[{ on := 4, ground := Ground.data }, { on := 6, ground := Ground.data }, { on := 3, ground := Ground.chain }], guard := none }) rfl (fun K hK => ?_) ?_
         ·
          refine step_app rfl (.tmp 23) (.tmp 25) 55 rfl 66 i1 _ Try.underlying55 hj0 hj1 hj2 hj3 rfl h4 rfl hb4 A' M c' (jc l2) rfl HMC.out HL2.out (HQ.out.keep hcur) HON2.out (Nat.le_trans hM66 (by omega)) (fun g7 k7 W7 hor7 hle7 hmx7 ow7 hgr => ?_)
          have hge : wc.heap.size ≤ W3z4.heap.size := hcur.size
          have hwg7 : wc.heap.size ≤ g7 := by rcases hor7 with e | e <;> omega
          replace ow3 := ow3.grown hgr (by simp only [ne_eq, Option.some.injEq]; omega)
          replace hcur : Below wc.heap.size wc W7 := hcur.grown hgr hge (fun k hk => by injection hk with hk; omega)
          clear hgr hge
          refine hK.out _ _ trivial (fun _ => ?_)
          clear hK K hor7
          try simp only [Act.put, List.setIfInBounds_toArray, List.set_cons_zero, List.set_cons_succ]
          have HREL := Lib.hid (shop_rel HS.out hcur ow3 ow7 hqq hql hq1l hwg3 hwg7)
          have z0 : W7.cell? ⟨q, 0, none⟩ = some (.slice A N c) := (hcur.cell (p := ⟨q, 0, none⟩) hql).trans x0
          have z1 : (W7.setCell ⟨q, 0, none⟩ (.slice (some ⟨g3, 0, none⟩) N k3)).cell? ⟨q, 1, none⟩ = some (.slice A' M c') := HREL.out.2.1
          have f0 : W7.frozen? ⟨q, 0, none⟩ = false := HREL.out.2.2.1
          have f1 : (W7.setCell ⟨q, 0, none⟩ (.slice (some ⟨g3, 0, none⟩) N k3)).frozen? ⟨q, 1, none⟩ = false := HREL.out.2.2.2
          refine wpAnyH_ready (rs := [9]) (by kernel_rfl) (by simp) ?_
          refine AllReadyH.cons (i := 9) rfl (fun K hK => ?_) AllReadyH.nil
          go_simp
          refine hK.out _ _ trivial (fun _ => ?_)
          clear hK K
          try simp only [Act.put, List.setIfInBounds_toArray, List.set_cons_zero, List.set_cons_succ]
          refine wpAnyH_take (i := 10) (oi := { dst := some 28, op := Op.fieldAddr 57 (Operand.tmp 1) 1, type := 0, pos := "law.go:194", after := #[{ on := 0, ground := Ground.phase }, { on := 1, ground := Ground.phase }, { on := 2, ground := Ground.phase }, { on := 3, ground := Ground.phase }, { on := 4, ground := Ground.phase }, { on := 5, ground := Ground.phase }, { on := 6, ground := Ground.phase }, { on := 7, ground := Ground.phase }, { on := 8, ground := Ground.phase }, { on := 9, ground := Ground.phase }], guard := none }) (v := ?vq22) rfl (by kernel_rfl) (by kernel_rfl) (by kernel_rfl) (fun _ _ _ h => h) (Or.inl ⟨by rfl, ?yq22⟩) trivial ?rq22
          case yq22 => (intro w hSw; go_simp; (try with_reducible rfl))
          try simp only [Act.put, List.setIfInBounds_toArray, List.set_cons_zero, List.set_cons_succ]
          refine wpAnyH_ready (rs := [11]) (by kernel_rfl) (by simp) ?_
          refine AllReadyH.cons (i := 11) rfl (fun K hK => ?_) AllReadyH.nil
          go_simp
          refine hK.out _ _ trivial (fun _ => ?_)
          clear hK K
          refine wpAnyH_done (by kernel_rfl) ?_ _
          go_wp2_with (fail)
          go_meet
          case rel => exact ⟨_, _, _, _, HREL.out.1⟩
         exact AllReadyH.nil
        exact AllReadyH.nil
       refine AllReadyH.cons (o := { dst := some 23, op := Op.buildSlice 55 0 #[], type := 55, pos := "law.go:194", after := #[], guard := none }) rfl (fun K hK => ?_) ?_
       ·
        go_simp
        have hb4 : Blk 66 (Vz0.alloc (.cells #[] 66)) Vz0.heap.size [] := Blk.new Vz0 66 []
        have hge4 : wc.heap.size ≤ Vz0.heap.size := hcur.size
        have hlo : h0 < Vz0.heap.size := hb0.lt
        replace hb0 := hb0.alloc (.cells #[] 66)
        replace hcur := hcur.alloc hcur.size (.cells #[] 66)
        refine hK.out _ _ trivial (fun _ => ?_)
        clear hK K
        generalize Vz0.heap.size = h4 at *
        generalize Vz0.alloc (.cells #[] 66) = Vz0z4 at *
        try simp only [Act.put, List.setIfInBounds_toArray, List.set_cons_zero, List.set_cons_succ]
        have hne : h4 ≠ h0 := Nat.ne_of_gt hlo
        refine wpAnyH_ready (rs := [3]) (by kernel_rfl) (by simp) ?_
        refine AllReadyH.cons (o := { dst := some 22, op := Op.call { callee := Callee.builtin Builtin.append, args := #[Operand.tmp 19, Operand.tmp 21], argTypes := #[54, 54] }, type := 54, pos := "law.go:194", after := #[{ on := 0, ground := Ground.data }, { on := 2, ground := Ground.data }], guard := none }) rfl (fun K hK => ?_) ?_
        ·
         have hl4 : h4 < Vz0z4.heap.size := hb4.lt
         have hl0 : h0 < Vz0z4.heap.size := hb0.lt
         refine step_app rfl (.tmp 19) (.tmp 21) 54 rfl 68 i0 _ Try.underlying54 hi0 hz0 hz1 hz2 rfl h0 rfl hb0 A N c (jc l1) rfl HNC.out HL1.out (HJ.out.keep hcur) HON.out (Nat.le_trans hN66 (by omega)) (fun g3 k3 W3 hor3 hle3 hmx3 ow3 hgr => ?_)
         have hge : wc.heap.size ≤ Vz0z4.heap.size := hcur.size
         have hwg3 : wc.heap.size ≤ g3 := by rcases hor3 with e | e <;> omega
         replace hb4 := hb4.grown hgr (by simp only [ne_eq, Option.some.injEq]; omega)
         have hne3 : g3 ≠ h4 := by rcases hor3 with e | e <;> omega
         replace hcur : Below wc.heap.size wc W3 := hcur.grown hgr hge (fun k hk => by injection hk with hk; omega)
         clear hgr hge
         refine hK.out _ _ trivial (fun _ => ?_)
         clear hK K hor3
         try simp only [Act.put, List.setIfInBounds_toArray, List.set_cons_zero, List.set_cons_succ]
         refine wpAnyH_take (i := 8) (oi := { dst := some 27, op := Op.fieldAddr 57 (Operand.tmp 1) 0, type := 0, pos := "law.go:194", after := #[{ on := 0, ground := Ground.phase }, { on := 1, ground := Ground.phase }, { on := 2, ground := Ground.phase }, { on := 3, ground := Ground.phase }, { on := 4, ground := Ground.textOnly Departure.lateStores }, { on := 5, ground := Ground.phase }, { on := 6, ground := Ground.phase }, { on := 7, ground := Ground.textOnly Departure.lateStoresUnsure }], guard := none }) (v := ?vq23) rfl (by kernel_rfl) (by kernel_rfl) (by kernel_rfl) (fun _ _ _ h => h) (Or.inl ⟨by rfl, ?yq23⟩) trivial ?rq23
         case yq23 => (intro w hSw; go_simp; (try with_reducible rfl))
         try simp only [Act.put, List.setIfInBounds_toArray, List.set_cons_zero, List.set_cons_succ]
         refine wpAnyH_ready (rs := [7]) (by kernel_rfl) (by simp) ?_
         refine AllReadyH.cons (o := { dst := some 26, op := Op.call { callee := Callee.builtin Builtin.append, args := #[Operand.tmp 23, Operand.tmp 25], argTypes := #[55, 55] }, type := 55, pos := "law.go:194", after := #[{ on := 4, ground := Ground.data }, { on := 6, ground := Ground.data }, { on := 3, ground := Ground.chain }], guard := none }) rfl (fun K hK => ?_) ?_
         ·
          refine step_app rfl (.tmp 23) (.tmp 25) 55 rfl 66 i1 _ Try.underlying55 hj0 hj1 hj2 hj3 rfl h4 rfl hb4 A' M c' (jc l2) rfl HMC.out HL2.out (HQ.out.keep hcur) HON2.out (Nat.le_trans hM66 (by omega)) (fun g7 k7 W7 hor7 hle7 hmx7 ow7 hgr => ?_)
          have hge : wc.heap.size ≤ W3.heap.size := hcur.size
          have hwg7 : wc.heap.size ≤ g7 := by rcases hor7 with e | e <;> omega
          replace ow3 := ow3.grown hgr (by simp only [ne_eq, Option.some.injEq]; omega)
          replace hcur : Below wc.heap.size wc W7 := hcur.grown hgr hge (fun k hk => by injection hk with hk; omega)
          clear hgr hge
          refine hK.out _ _ trivial (fun _ => ?_)
          clear hK K hor7
          try simp only [Act.put, List.setIfInBounds_toArray, List.set_cons_zero, List.set_cons_succ]
          have HREL := Lib.hid (shop_rel HS.out hcur ow3 ow7 hqq hql hq1l hwg3 hwg7)
          have z0 : W7.cell? ⟨q, 0, none⟩ = some (.slice A N c) := (hcur.cell (p := ⟨q, 0, none⟩) hql).trans x0
          have z1 : (W7.setCell ⟨q, 0, none⟩ (.slice (some ⟨g3, 0, none⟩) N k3)).cell? ⟨q, 1, none⟩ = some (.slice A' M c') := HREL.out.2.1
          have f0 : W7.frozen? ⟨q, 0, none⟩ = false := HREL.out.2.2.1
          have f1 : (W7.setCell ⟨q, 0, none⟩ (.slice (some ⟨g3, 0, none⟩) N k3)).frozen? ⟨q, 1, none⟩ = false := HREL.out.2.2.2
          refine wpAnyH_ready (rs := [9]) (by kernel_rfl) (by simp) ?_
          refine AllReadyH.cons (i := 9) rfl (fun K hK => ?_) AllReadyH.nil
          go_simp
          refine hK.out _ _ trivial (fun _ => ?_)
          clear hK K
          try simp only [Act.put, List.setIfInBounds_toArray, List.set_cons_zero, List.set_cons_succ]
          refine wpAnyH_take (i := 10) (oi := { dst := some 28, op := Op.fieldAddr 57 (Operand.tmp 1) 1, type := 0, pos := "law.go:194", after := #[{ on := 0, ground := Ground.phase }, { on := 1, ground := Ground.phase }, { on := 2, ground := Ground.phase }, { on := 3, ground := Ground.phase }, { on := 4, ground := Ground.phase }, { on := 5, ground := Ground.phase }, { on := 6, ground := Ground.phase }, { on := 7, ground := Ground.phase }, { on := 8, ground := Ground.phase }, { on := 9, ground := Ground.phase }], guard := none }) (v := ?vq24) rfl (by kernel_rfl) (by kernel_rfl) (by kernel_rfl) (fun _ _ _ h => h) (Or.inl ⟨by rfl, ?yq24⟩) trivial ?rq24
          case yq24 => (intro w hSw; go_simp; (try with_reducible rfl))
          try simp only [Act.put, List.setIfInBounds_toArray, List.set_cons_zero, List.set_cons_succ]
          refine wpAnyH_ready (rs := [11]) (by kernel_rfl) (by simp) ?_
          refine AllReadyH.cons (i := 11) rfl (fun K hK => ?_) AllReadyH.nil
          go_simp
          refine hK.out _ _ trivial (fun _ => ?_)
          clear hK K
          refine wpAnyH_done (by kernel_rfl) ?_ _
          go_wp2_with (fail)
          go_meet
          case rel => exact ⟨_, _, _, _, HREL.out.1⟩
         exact AllReadyH.nil
        exact AllReadyH.nil
       exact AllReadyH.nil
      refine AllReadyH.cons (o := { dst := some 23, op := Op.buildSlice 55 0 #[], type := 55, pos := "law.go:194", after := #[], guard := none }) rfl (fun K hK => ?_) ?_
      ·
       go_simp
       have hb4 : Blk 66 (Vz0.alloc (.cells #[] 66)) Vz0.heap.size [] := Blk.new Vz0 66 []
       have hge4 : wc.heap.size ≤ Vz0.heap.size := hcur.size
       have hlo : h0 < Vz0.heap.size := hb0.lt
       replace hb0 := hb0.alloc (.cells #[] 66)
       replace hcur := hcur.alloc hcur.size (.cells #[] 66)
       refine hK.out _ _ trivial (fun _ => ?_)
       clear hK K
       generalize Vz0.heap.size = h4 at *
       generalize Vz0.alloc (.cells #[] 66) = Vz0z4 at *
       try simp only [Act.put, List.setIfInBounds_toArray, List.set_cons_zero, List.set_cons_succ]
       have hne : h4 ≠ h0 := Nat.ne_of_gt hlo
       refine wpAnyH_ready (rs := [2]) (by kernel_rfl) (by simp) ?_
       refine AllReadyH.cons (o := { dst := some 21, op := Op.load 54 (Operand.tmp 20), type := 54, pos := "law.go:194", after := #[{ on := 1, ground := Ground.data }], guard := none }) rfl (fun K hK => ?_) ?_
       ·
        have xc : Vz0z4.cell? ⟨q, 0, none⟩ = some (.slice A N c) := (hcur.cell (p := ⟨q, 0, none⟩) hql).trans x0
        go_simp
        refine hK.out _ _ trivial (fun _ => ?_)
        clear hK K xc
        try simp only [Act.put, List.setIfInBounds_toArray, List.set_cons_zero, List.set_cons_succ]
        refine wpAnyH_ready (rs := [3]) (by kernel_rfl) (by simp) ?_
        refine AllReadyH.cons (o := { dst := some 22, op := Op.call { callee := Callee.builtin Builtin.append, args := #[Operand.tmp 19, Operand.tmp 21], argTypes := #[54, 54] }, type := 54, pos := "law.go:194", after := #[{ on := 0, ground := Ground.data }, { on := 2, ground := Ground.data }], guard := none }) rfl (fun K hK => ?_) ?_
        ·
         have hl4 : h4 < Vz0z4.heap.size := hb4.lt
         have hl0 : h0 < Vz0z4.heap.size := hb0.lt
         refine step_app rfl (.tmp 19) (.tmp 21) 54 rfl 68 i0 _ Try.underlying54 hi0 hz0 hz1 hz2 rfl h0 rfl hb0 A N c (jc l1) rfl HNC.out HL1.out (HJ.out.keep hcur) HON.out (Nat.le_trans hN66 (by omega)) (fun g3 k3 W3 hor3 hle3 hmx3 ow3 hgr => ?_)
         have hge : wc.heap.size ≤ Vz0z4.heap.size := hcur.size
         have hwg3 : wc.heap.size ≤ g3 := by rcases hor3 with e | e <;> omega
         replace hb4 := hb4.grown hgr (by simp only [ne_eq, Option.some.injEq]; omega)
         have hne3 : g3 ≠ h4 := by rcases hor3 with e | e <;> omega
         replace hcur : Below wc.heap.size wc W3 := hcur.grown hgr hge (fun k hk => by injection hk with hk; omega)
         clear hgr hge
         refine hK.out _ _ trivial (fun _ => ?_)
         clear hK K hor3
         try simp only [Act.put, List.setIfInBounds_toArray, List.set_cons_zero, List.set_cons_succ]
         refine wpAnyH_take (i := 8) (oi := { dst := some 27, op := Op.fieldAddr 57 (Operand.tmp 1) 0, type := 0, pos := "law.go:194", after := #[{ on := 0, ground := Ground.phase }, { on := 1, ground := Ground.phase }, { on := 2, ground := Ground.phase }, { on := 3, ground := Ground.phase }, { on := 4, ground := Ground.textOnly Departure.lateStores }, { on := 5, ground := Ground.phase }, { on := 6, ground := Ground.phase }, { on := 7, ground := Ground.textOnly Departure.lateStoresUnsure }], guard := none }) (v := ?vq25) rfl (by kernel_rfl) (by kernel_rfl) (by kernel_rfl) (fun _ _ _ h => h) (Or.inl ⟨by rfl, ?yq25⟩) trivial ?rq25
         case yq25 => (intro w hSw; go_simp; (try with_reducible rfl))
         try simp only [Act.put, List.setIfInBounds_toArray, List.set_cons_zero, List.set_cons_succ]
         refine wpAnyH_ready (rs := [7]) (by kernel_rfl) (by simp) ?_
         refine AllReadyH.cons (o := { dst := some 26, op := Op.call { callee := Callee.builtin Builtin.append, args := #[Operand.tmp 23, Operand.tmp 25], argTypes := #[55, 55] }, type := 55, pos := "law.go:194", after := #[{ on := 4, ground := Ground.data }, { on := 6, ground := Ground.data }, { on := 3, ground := Ground.chain }], guard := none }) rfl (fun K hK => ?_) ?_
         ·
          refine step_app rfl (.tmp 23) (.tmp 25) 55 rfl 66 i1 _ Try.underlying55 hj0 hj1 hj2 hj3 rfl h4 rfl hb4 A' M c' (jc l2) rfl HMC.out HL2.out (HQ.out.keep hcur) HON2.out (Nat.le_trans hM66 (by omega)) (fun g7 k7 W7 hor7 hle7 hmx7 ow7 hgr => ?_)
          have hge : wc.heap.size ≤ W3.heap.size := hcur.size
          have hwg7 : wc.heap.size ≤ g7 := by rcases hor7 with e | e <;> omega
          replace ow3 := ow3.grown hgr (by simp only [ne_eq, Option.some.injEq]; omega)
          replace hcur : Below wc.heap.size wc W7 := hcur.grown hgr hge (fun k hk => by injection hk with hk; omega)
          clear hgr hge
          refine hK.out _ _ trivial (fun _ => ?_)
          clear hK K hor7
          try simp only [Act.put, List.setIfInBounds_toArray, List.set_cons_zero, List.set_cons_succ]
          have HREL := Lib.hid (shop_rel HS.out hcur ow3 ow7 hqq hql hq1l hwg3 hwg7)
          have z0 : W7.cell? ⟨q, 0, none⟩ = some (.slice A N c) := (hcur.cell (p := ⟨q, 0, none⟩) hql).trans x0
          have z1 : (W7.setCell ⟨q, 0, none⟩ (.slice (some ⟨g3, 0, none⟩) N k3)).cell? ⟨q, 1, none⟩ = some (.slice A' M c') := HREL.out.2.1
          have f0 : W7.frozen? ⟨q, 0, none⟩ = false := HREL.out.2.2.1
          have f1 : (W7.setCell ⟨q, 0, none⟩ (.slice (some ⟨g3, 0, none⟩) N k3)).frozen? ⟨q, 1, none⟩ = false := HREL.out.2.2.2
          refine wpAnyH_ready (rs := [9]) (by kernel_rfl) (by simp) ?_
          refine AllReadyH.cons (i := 9) rfl (fun K hK => ?_) AllReadyH.nil
          go_simp
          refine hK.out _ _ trivial (fun _ => ?_)
          clear hK K
          try simp only [Act.put, List.setIfInBounds_toArray, List.set_cons_zero, List.set_cons_succ]
          refine wpAnyH_take (i := 10) (oi := { dst := some 28, op := Op.fieldAddr 57 (Operand.tmp 1) 1, type := 0, pos := "law.go:194", after := #[{ on := 0, ground := Ground.phase }, { on := 1, ground := Ground.phase }, { on := 2, ground := Ground.phase }, { on := 3, ground := Ground.phase }, { on := 4, ground := Ground.phase }, { on := 5, ground := Ground.phase }, { on := 6, ground := Ground.phase }, { on := 7, ground := Ground.phase }, { on := 8, ground := Ground.phase }, { on := 9, ground := Ground.phase }], guard := none }) (v := ?vq26) rfl (by kernel_rfl) (by kernel_rfl) (by kernel_rfl) (fun _ _ _ h => h) (Or.inl ⟨by rfl, ?yq26⟩) trivial ?rq26
          case yq26 => (intro w hSw; go_simp; (try with_reducible rfl))
          try simp only [Act.put, List.setIfInBounds_toArray, List.set_cons_zero, List.set_cons_succ]
          refine wpAnyH_ready (rs := [11]) (by kernel_rfl) (by simp) ?_
          refine AllReadyH.cons (i := 11) rfl (fun K hK => ?_) AllReadyH.nil
          go_simp
          refine hK.out _ _ trivial (fun _ => ?_)
          clear hK K
          refine wpAnyH_done (by kernel_rfl) ?_ _
          go_wp2_with (fail)
          go_meet
          case rel => exact ⟨_, _, _, _, HREL.out.1⟩
         exact AllReadyH.nil
        exact AllReadyH.nil
       exact AllReadyH.nil
      exact AllReadyH.nil
     exact AllReadyH.nil
    refine AllReadyH.cons (o := { dst := some 21, op := Op.load 54 (Operand.tmp 20), type := 54, pos := "law.go:194", after := #[{ on := 1, ground := Ground.data }], guard := none }) rfl (fun K hK => ?_) ?_
    ·
     have xc : V.cell? ⟨q, 0, none⟩ = some (.slice A N c) := (hcur.cell (p := ⟨q, 0, none⟩) hql).trans x0
     go_simp
     refine hK.out _ _ trivial (fun _ => ?_)
     clear hK K xc
     try simp only [Act.put, List.setIfInBounds_toArray, List.set_cons_zero, List.set_cons_succ]
     refine wpAnyH_ready (rs := [0, 4, 6]) (by kernel_rfl) (by simp) ?_
     refine AllReadyH.cons (o := { dst := some 19, op := Op.buildSlice 54 0 #[], type := 54, pos := "law.go:194", after := #[], guard := none }) rfl (fun K hK => ?_) ?_
     ·
      go_simp
      have hb0 : Blk 68 (V.alloc (.cells #[] 68)) V.heap.size [] := Blk.new V 68 []
      have hge0 : wc.heap.size ≤ V.heap.size := hcur.size
      replace hcur := hcur.alloc hcur.size (.cells #[] 68)
      refine hK.out _ _ trivial (fun _ => ?_)
      clear hK K
      generalize V.heap.size = h0 at *
      generalize V.alloc (.cells #[] 68) = Vz0 at *
      try simp only [Act.put, List.setIfInBounds_toArray, List.set_cons_zero, List.set_cons_succ]
      refine wpAnyH_ready (rs := [3, 4, 6]) (by kernel_rfl) (by simp) ?_
      refine AllReadyH.cons (o := { dst := some 22, op := Op.call { callee := Callee.builtin Builtin.append, args := #[Operand.tmp 19, Operand.tmp 21], argTypes := #[54, 54] }, type := 54, pos := "law.go:194", after := #[{ on := 0, ground := Ground.data }, { on := 2, ground := Ground.data }], guard := none }) rfl (fun K hK => ?_) ?_
      ·
       have hl0 : h0 < Vz0.heap.size := hb0.lt
       refine step_app rfl (.tmp 19) (.tmp 21) 54 rfl 68 i0 _ Try.underlying54 hi0 hz0 hz1 hz2 rfl h0 rfl hb0 A N c (jc l1) rfl HNC.out HL1.out (HJ.out.keep hcur) HON.out (Nat.le_trans hN66 (by omega)) (fun g3 k3 W3 hor3 hle3 hmx3 ow3 hgr => ?_)
       have hge : wc.heap.size ≤ Vz0.heap.size := hcur.size
       have hwg3 : wc.heap.size ≤ g3 := by rcases hor3 with e | e <;> omega
       replace hcur : Below wc.heap.size wc W3 := hcur.grown hgr hge (fun k hk => by injection hk with hk; omega)
       clear hgr hge
       refine hK.out _ _ trivial (fun _ => ?_)
       clear hK K hor3
       try simp only [Act.put, List.setIfInBounds_toArray, List.set_cons_zero, List.set_cons_succ]
       refine wpAnyH_ready (rs := [4, 6]) (by kernel_rfl) (by simp) ?_
       refine AllReadyH.cons (o := { dst := some 23, op := Op.buildSlice 55 0 #[], type := 55, pos := "law.go:194", after := #[], guard := none }) rfl (fun K hK => ?_) ?_
       ·
        go_simp
        have hb4 : Blk 66 (W3.alloc (.cells #[] 66)) W3.heap.size [] := Blk.new W3 66 []
        have hge4 : wc.heap.size ≤ W3.heap.size := hcur.size
        have hlo : g3 < W3.heap.size := ow3.lt
        replace ow3 := ow3.alloc (.cells #[] 66)
        replace hcur := hcur.alloc hcur.size (.cells #[] 66)
        refine hK.out _ _ trivial (fun _ => ?_)
        clear hK K
        generalize W3.heap.size = h4 at *
        generalize W3.alloc (.cells #[] 66) = W3z4 at *
        try simp only [Act.put, List.setIfInBounds_toArray, List.set_cons_zero, List.set_cons_succ]
        have hne3 : g3 ≠ h4 := Nat.ne_of_lt hlo
        refine wpAnyH_ready (rs := [6]) (by kernel_rfl) (by simp) ?_
        refine AllReadyH.cons (o := { dst := some 25, op := Op.load 55 (Operand.tmp 24), type := 55, pos := "law.go:194", after := #[{ on := 5, ground := Ground.data }], guard := none }) rfl (fun K hK => ?_) ?_
        ·
         have xc : W3z4.cell? ⟨q, 1, none⟩ = some (.slice A' M c') := (hcur.cell (p := ⟨q, 1, none⟩) hql).trans x1
         go_simp
         refine hK.out _ _ trivial (fun _ => ?_)
         clear hK K xc
         try simp only [Act.put, List.setIfInBounds_toArray, List.set_cons_zero, List.set_cons_succ]
         refine wpAnyH_take (i := 8) (oi := { dst := some 27, op := Op.fieldAddr 57 (Operand.tmp 1) 0, type := 0, pos := "law.go:194", after := #[{ on := 0, ground := Ground.phase }, { on := 1, ground := Ground.phase }, { on := 2, ground := Ground.phase }, { on := 3, ground := Ground.phase }, { on := 4, ground := Ground.textOnly Departure.lateStores }, { on := 5, ground := Ground.phase }, { on := 6, ground := Ground.phase }, { on := 7, ground := Ground.textOnly Departure.lateStoresUnsure }], guard := none }) (v := ?vq27) rfl (by kernel_rfl) (by kernel_rfl) (by kernel_rfl) (fun _ _ _ h => h) (Or.inl ⟨by rfl, ?yq27⟩) trivial ?rq27
         case yq27 => (intro w hSw; go_simp; (try with_reducible rfl))
         try simp only [Act.put, List.setIfInBounds_toArray, List.set_cons_zero, List.set_cons_succ]
         refine wpAnyH_ready (rs := [7]) (by kernel_rfl) (by simp) ?_
         refine AllReadyH.cons (o := { dst := some 26, op := Op.call { callee := Callee.builtin Builtin.append, args := #[Operand.tmp 23, Operand.tmp 25], argTypes := #[55, 55] }, type := 55, pos := "law.go:194", after := #[{ on := 4, ground := Ground.data }, { on := 6, ground := Ground.data }, { on := 3, ground := Ground.chain }], guard := none }) rfl (fun K hK => ?_) ?_
         ·
          refine step_app rfl (.tmp 23) (.tmp 25) 55 rfl 66 i1 _ Try.underlying55 hj0 hj1 hj2 hj3 rfl h4 rfl hb4 A' M c' (jc l2) rfl HMC.out HL2.out (HQ.out.keep hcur) HON2.out (Nat.le_trans hM66 (by omega)) (fun g7 k7 W7 hor7 hle7 hmx7 ow7 hgr => ?_)
          have hge : wc.heap.size ≤ W3z4.heap.size := hcur.size
          have hwg7 : wc.heap.size ≤ g7 := by rcases hor7 with e | e <;> omega
          replace ow3 := ow3.grown hgr (by simp only [ne_eq, Option.some.injEq]; omega)
          replace hcur : Below wc.heap.size wc W7 := hcur.grown hgr hge (fun k hk => by injection hk with hk; omega)
          clear hgr hge
          refine hK.out _ _ trivial (fun _ => ?_)
          clear hK K hor7
          try simp only [Act.put, List.setIfInBounds_toArray, List.set_cons_zero, List.set_cons_succ]
          have HREL := Lib.hid (shop_rel HS.out hcur ow3 ow7 hqq hql hq1l hwg3 hwg7)
          have z0 : W7.cell? ⟨q, 0, none⟩ = some (.slice A N c) := (hcur.cell (p := ⟨q, 0, none⟩) hql).trans x0
          have z1 : (W7.setCell ⟨q, 0, none⟩ (.slice (some ⟨g3, 0, none⟩) N k3)).cell? ⟨q, 1, none⟩ = some (.slice A' M c') := HREL.out.2.1
          have f0 : W7.frozen? ⟨q, 0, none⟩ = false := HREL.out.2.2.1
          have f1 : (W7.setCell ⟨q, 0, none⟩ (.slice (some ⟨g3, 0, none⟩) N k3)).frozen? ⟨q, 1, none⟩ = false := HREL.out.2.2.2
          refine wpAnyH_ready (rs := [9]) (by kernel_rfl) (by simp) ?_
          refine AllReadyH.cons (i := 9) rfl (fun K hK => ?_) AllReadyH.nil
          go_simp
          refine hK.out _ _ trivial (fun _ => ?_)
          clear hK K
          try simp only [Act.put, List.setIfInBounds_toArray, List.set_cons_zero, List.set_cons_succ]
          refine wpAnyH_take (i := 10) (oi := { dst := some 28, op := Op.fieldAddr 57 (Operand.tmp 1) 1, type := 0, pos := "law.go:194", after := #[{ on := 0, ground := Ground.phase }, { on := 1, ground := Ground.phase }, { on := 2, ground := Ground.phase }, { on := 3, ground := Ground.phase }, { on := 4, ground := Ground.phase }, { on := 5, ground := Ground.phase }, { on := 6, ground := Ground.phase }, { on := 7, ground := Ground.phase }, { on := 8, ground := Ground.phase }, { on := 9, ground := Ground.phase }], guard := none }) (v := ?vq28) rfl (by kernel_rfl) (by kernel_rfl) (by kernel_rfl) (fun _ _ _ h => h) (Or.inl ⟨by rfl, ?yq28⟩) trivial ?rq28
          case yq28 => (intro w hSw; go_simp; (try with_reducible rfl))
          try simp only [Act.put, List.setIfInBounds_toArray, List.set_cons_zero, List.set_cons_succ]
          refine wpAnyH_ready (rs := [11]) (by kernel_rfl) (by simp) ?_
          refine AllReadyH.cons (i := 11) rfl (fun K hK => ?_) AllReadyH.nil
          go_simp
          refine hK.out _ _ trivial (fun _ => ?_)
          clear hK K
          refine wpAnyH_done (by kernel_rfl) ?_ _
          go_wp2_with (fail)
          go_meet
          case rel => exact ⟨_, _, _, _, HREL.out.1⟩
         exact AllReadyH.nil
        exact AllReadyH.nil
       refine AllReadyH.cons (o := { dst := some 25, op := Op.load 55 (Operand.tmp 24), type := 55, pos := "law.go:194", after := #[{ on := 5, ground := Ground.data }], guard := none }) rfl (fun K hK => ?_) ?_
       ·
        have xc : W3.cell? ⟨q, 1, none⟩ = some (.slice A' M c') := (hcur.cell (p := ⟨q, 1, none⟩) hql).trans x1
        go_simp
        refine hK.out _ _ trivial (fun _ => ?_)
        clear hK K xc
        try simp only [Act.put, List.setIfInBounds_toArray, List.set_cons_zero, List.set_cons_succ]
        refine wpAnyH_take (i := 8) (oi := { dst := some 27, op := Op.fieldAddr 57 (Operand.tmp 1) 0, type := 0, pos := "law.go:194", after := #[{ on := 0, ground := Ground.phase }, { on := 1, ground := Ground.phase }, { on := 2, ground := Ground.phase }, { on := 3, ground := Ground.phase }, { on := 4, ground := Ground.textOnly Departure.lateStores }, { on := 5, ground := Ground.phase }, { on := 6, ground := Ground.phase }, { on := 7, ground := Ground.textOnly Departure.lateStoresUnsure }], guard := none }) (v := ?vq29) rfl (by kernel_rfl) (by kernel_rfl) (by kernel_rfl) (fun _ _ _ h => h) (Or.inl ⟨by rfl, ?yq29⟩) trivial ?rq29
        case yq29 => (intro w hSw; go_simp; (try with_reducible rfl))
        try simp only [Act.put, List.setIfInBounds_toArray, List.set_cons_zero, List.set_cons_succ]
        refine wpAnyH_ready (rs := [4]) (by kernel_rfl) (by simp) ?_
        refine AllReadyH.cons (o := { dst := some 23, op := Op.buildSlice 55 0 #[], type := 55, pos := "law.go:194", after := #[], guard := none }) rfl (fun K hK => ?_) ?_
        ·
         go_simp
         have hb4 : Blk 66 (W3.alloc (.cells #[] 66)) W3.heap.size [] := Blk.new W3 66 []
         have hge4 : wc.heap.size ≤ W3.heap.size := hcur.size
         have hlo : g3 < W3.heap.size := ow3.lt
         replace ow3 := ow3.alloc (.cells #[] 66)
         replace hcur := hcur.alloc hcur.size (.cells #[] 66)
         refine hK.out _ _ trivial (fun _ => ?_)
         clear hK K
         generalize W3.heap.size = h4 at *
         generalize W3.alloc (.cells #[] 66) = W3z4 at *
         try simp only [Act.put, List.setIfInBounds_toArray, List.set_cons_zero, List.set_cons_succ]
         have hne3 : g3 ≠ h4 := Nat.ne_of_lt hlo
         refine wpAnyH_ready (rs := [7]) (by kernel_rfl) (by simp) ?_
         refine AllReadyH.cons (o := { dst := some 26, op := Op.call { callee := Callee.builtin Builtin.append, args := #[Operand.tmp 23, Operand.tmp 25], argTypes := #[55, 55] }, type := 55, pos := "law.go:194", after := #[{ on := 4, ground := Ground.data }, { on := 6, ground := Ground.data }, { on := 3, ground := Ground.chain }], guard := none }) rfl (fun K hK => ?_) ?_
         ·
          refine step_app rfl (.tmp 23) (.tmp 25) 55 rfl 66 i1 _ Try.underlying55 hj0 hj1 hj2 hj3 rfl h4 rfl hb4 A' M c' (jc l2) rfl HMC.out HL2.out (HQ.out.keep hcur) HON2.out (Nat.le_trans hM66 (by omega)) (fun g7 k7 W7 hor7 hle7 hmx7 ow7 hgr => ?_)
          have hge : wc.heap.size ≤ W3z4.heap.size := hcur.size
          have hwg7 : wc.heap.size ≤ g7 := by rcases hor7 with e | e <;> omega
          replace ow3 := ow3.grown hgr (by simp only [ne_eq, Option.some.injEq]; omega)
          replace hcur : Below wc.heap.size wc W7 := hcur.grown hgr hge (fun k hk => by injection hk with hk; omega)
          clear hgr hge
          refine hK.out _ _ trivial (fun _ => ?_)
          clear hK K hor7
          try simp only [Act.put, List.setIfInBounds_toArray, List.set_cons_zero, List.set_cons_succ]
          have HREL := Lib.hid (shop_rel HS.out hcur ow3 ow7 hqq hql hq1l hwg3 hwg7)
          have z0 : W7.cell? ⟨q, 0, none⟩ = some (.slice A N c) := (hcur.cell (p := ⟨q, 0, none⟩) hql).trans x0
          have z1 : (W7.setCell ⟨q, 0, none⟩ (.slice (some ⟨g3, 0, none⟩) N k3)).cell? ⟨q, 1, none⟩ = some (.slice A' M c') := HREL.out.2.1
          have f0 : W7.frozen? ⟨q, 0, none⟩ = false := HREL.out.2.2.1
          have f1 : (W7.setCell ⟨q, 0, none⟩ (.slice (some ⟨g3, 0, none⟩) N k3)).frozen? ⟨q, 1, none⟩ = false := HREL.out.2.2.2
          refine wpAnyH_ready (rs := [9]) (by kernel_rfl) (by simp) ?_
          refine AllReadyH.cons (i := 9) rfl (fun K hK => ?_) AllReadyH.nil
          go_simp
          refine hK.out _ _ trivial (fun _ => ?_)
          clear hK K
          try simp only [Act.put, List.setIfInBounds_toArray, List.set_cons_zero, List.set_cons_succ]
          refine wpAnyH_take (i := 10) (oi := { dst := some 28, op := Op.fieldAddr 57 (Operand.tmp 1) 1, type := 0, pos := "law.go:194", after := #[{ on := 0, ground := Ground.phase }, { on := 1, ground := Ground.phase }, { on := 2, ground := Ground.phase }, { on := 3, ground := Ground.phase }, { on := 4, ground := Ground.phase }, { on := 5, ground := Ground.phase }, { on := 6, ground := Ground.phase }, { on := 7, ground := Ground.phase }, { on := 8, ground := Ground.phase }, { on := 9, ground := Ground.phase }], guard := none }) (v := ?vq30) rfl (by kernel_rfl) (by kernel_rfl) (by kernel_rfl) (fun _ _ _ h => h) (Or.inl ⟨by rfl, ?yq30⟩) trivial ?rq30
          case yq30 => (intro w hSw; go_simp; (try with_reducible rfl))
          try simp only [Act.put, List.setIfInBounds_toArray, List.set_cons_zero, List.set_cons_succ]
          refine wpAnyH_ready (rs := [11]) (by kernel_rfl) (by simp) ?_
          refine AllReadyH.cons (i := 11) rfl (fun K hK => ?_) AllReadyH.nil
          go_simp
          refine hK.out _ _ trivial (fun _ => ?_)
          clear hK K
          refine wpAnyH_done (by kernel_rfl) ?_ _
          go_wp2_with (fail)
          go_meet
          case rel => exact ⟨_, _, _, _, HREL.out.1⟩
         exact AllReadyH.nil
        exact AllReadyH.nil
       exact AllReadyH.nil
      refine AllReadyH.cons (o := { dst := some 23, op := Op.buildSlice 55 0 #[], type := 55, pos := "law.go:194", after := #[], guard := none }) rfl (fun K hK => ?_) ?_
      ·
       go_simp
       have hb4 : Blk 66 (Vz0.alloc (.cells #[] 66)) Vz0.heap.size [] := Blk.new Vz0 66 []
       have hge4 : wc.heap.size ≤ Vz0.heap.size := hcur.size
       have hlo : h0 < Vz0.heap.size := hb0.lt
       replace hb0 := hb0.alloc (.cells #[] 66)
       replace hcur := hcur.alloc hcur.size (.cells #[] 66)
       refine hK.out _ _ trivial (fun _ => ?_)
       clear hK K
       generalize Vz0.heap.size = h4 at *
       generalize Vz0.alloc (.cells #[] 66) = Vz0z4 at *
       try simp only [Act.put, List.setIfInBounds_toArray, List.set_cons_zero, List.set_cons_succ]
       have hne : h4 ≠ h0 := Nat.ne_of_gt hlo
       refine wpAnyH_ready (rs := [3, 6]) (by kernel_rfl) (by simp) ?_
       refine AllReadyH.cons (o := { dst := some 22, op := Op.call { callee := Callee.builtin Builtin.append, args := #[Operand.tmp 19, Operand.tmp 21], argTypes := #[54, 54] }, type := 54, pos := "law.go:194", after := #[{ on := 0, ground := Ground.data }, { on := 2, ground := Ground.data }], guard := none }) rfl (fun K hK => ?_) ?_
       ·
        have hl4 : h4 < Vz0z4.heap.size := hb4.lt
        have hl0 : h0 < Vz0z4.heap.size := hb0.lt
        refine step_app rfl (.tmp 19) (.tmp 21) 54 rfl 68 i0 _ Try.underlying54 hi0 hz0 hz1 hz2 rfl h0 rfl hb0 A N c (jc l1) rfl HNC.out HL1.out (HJ.out.keep hcur) HON.out (Nat.le_trans hN66 (by omega)) (fun g3 k3 W3 hor3 hle3 hmx3 ow3 hgr => ?_)
        have hge : wc.heap.size ≤ Vz0z4.heap.size := hcur.size
        have hwg3 : wc.heap.size ≤ g3 := by rcases hor3 with e | e <;> omega
        replace hb4 := hb4.grown hgr (by simp only [ne_eq, Option.some.injEq]; omega)
        have hne3 : g3 ≠ h4 := by rcases hor3 with e | e <;> omega
        replace hcur : Below wc.heap.size wc W3 := hcur.grown hgr hge (fun k hk => by injection hk with hk; omega)
        clear hgr hge
        refine hK.out _ _ trivial (fun _ => ?_)
        clear hK K hor3
        try simp only [Act.put, List.setIfInBounds_toArray, List.set_cons_zero, List.set_cons_succ]
        refine wpAnyH_ready (rs := [6]) (by kernel_rfl) (by simp) ?_
        refine AllReadyH.cons (o := { dst := some 25, op := Op.load 55 (Operand.tmp 24), type := 55, pos := "law.go:194", after := #[{ on := 5, ground := Ground.data }], guard := none }) rfl (fun K hK => ?_) ?_
        ·
         have xc : W3.cell? ⟨q, 1, none⟩ = some (.slice A' M c') := (hcur.cell (p := ⟨q, 1, none⟩) hql).trans x1
         go_simp
         refine hK.out _ _ trivial (fun _ => ?_)
         clear hK K xc
         try simp only [Act.put, List.setIfInBounds_toArray, List.set_cons_zero, List.set_cons_succ]
         refine wpAnyH_take (i := 8) (oi := { dst := some 27, op := Op.fieldAddr 57 (Operand.tmp 1) 0, type := 0, pos := "law.go:194", after := #[{ on := 0, ground := Ground.phase }, { on := 1, ground := Ground.phase }, { on := 2, ground := Ground.phase }, { on := 3, ground := Ground.phase }, { on := 4, ground := Ground.textOnly Departure.lateStores }, { on := 5, ground := Ground.phase }, { on := 6, ground := Ground.phase }, { on := 7, ground := Ground.textOnly Departure.lateStoresUnsure }], guard := none }) (v := ?vq31) rfl (by kernel_rfl) (by kernel_rfl) (by kernel_rfl) (fun _ _ _ h => h) (Or.inl ⟨by rfl, ?yq31⟩) trivial ?rq31
         case yq31 => (intro w hSw; go_simp; (try with_reducible rfl))
         try simp only [Act.put, List.setIfInBounds_toArray, List.set_cons_zero, List.set_cons_succ]
         refine wpAnyH_ready (rs := [7]) (by kernel_rfl) (by simp) ?_
         refine AllReadyH.cons (o := { dst := some 26, op := Op.call { callee := Callee.builtin Builtin.append, args := #[Operand.tmp 23, Operand.tmp 25], argTypes := #[55, 55] }, type := 55, pos := "law.go:194", after := #[{ on := 4, ground := Ground.data }, { on := 6, ground := Ground.data }, { on := 3, ground := Ground.chain }], guard := none }) rfl (fun K hK => ?_) ?_
         ·
          refine step_app rfl (.tmp 23) (.tmp 25) 55 rfl 66 i1 _ Try.underlying55 hj0 hj1 hj2 hj3 rfl h4 rfl hb4 A' M c' (jc l2) rfl HMC.out HL2.out (HQ.out.keep hcur) HON2.out (Nat.le_trans hM66 (by omega)) (fun g7 k7 W7 hor7 hle7 hmx7 ow7 hgr => ?_)
          have hge : wc.heap.size ≤ W3.heap.size := hcur.size
          have hwg7 : wc.heap.size ≤ g7 := by rcases hor7 with e | e <;> omega
          replace ow3 := ow3.grown hgr (by simp only [ne_eq, Option.some.injEq]; omega)
          replace hcur : Below wc.heap.size wc W7 := hcur.grown hgr hge (fun k hk => by injection hk with hk; omega)
          clear hgr hge
          refine hK.out _ _ trivial (fun _ => ?_)
          clear hK K hor7
          try simp only [Act.put, List.setIfInBounds_toArray, List.set_cons_zero, List.set_cons_succ]
          have HREL := Lib.hid (shop_rel HS.out hcur ow3 ow7 hqq hql hq1l hwg3 hwg7)
          have z0 : W7.cell? ⟨q, 0, none⟩ = some (.slice A N c) := (hcur.cell (p := ⟨q, 0, none⟩) hql).trans x0
          have z1 : (W7.setCell ⟨q, 0, none⟩ (.slice (some ⟨g3, 0, none⟩) N k3)).cell? ⟨q, 1, none⟩ = some (.slice A' M c') := HREL.out.2.1
          have f0 : W7.frozen? ⟨q, 0, none⟩ = false := HREL.out.2.2.1
          have f1 : (W7.setCell ⟨q, 0, none⟩ (.slice (some ⟨g3, 0, none⟩) N k3)).frozen? ⟨q, 1, none⟩ = false := HREL.out.2.2.2
          refine wpAnyH_ready (rs := [9]) (by kernel_rfl) (by simp) ?_
          refine AllReadyH.cons (i := 9) rfl (fun K hK => ?_) AllReadyH.nil
          go_simp
          refine hK.out _ _ trivial (fun _ => ?_)
          clear hK K
          try simp only [Act.put, List.setIfInBounds_toArray, List.set_cons_zero, List.set_cons_succ]
          refine wpAnyH_take (i := 10) (oi := { dst := some 28, op := Op.fieldAddr 57 (Operand.tmp 1) 1, type := 0, pos := "law.go:194", after := #[{ on := 0, ground := Ground.phase }, { on := 1, ground := Ground.phase }, { on := 2, ground := Ground.phase }, { on := 3, ground := Ground.phase }, { on := 4, ground := Ground.phase }, { on := 5, ground := Ground.phase }, { on := 6, ground := Ground.phase }, { on := 7, ground := Ground.phase }, { on := 8, ground := Ground.phase }, { on := 9, ground := Ground.phase }], guard := none }) (v := ?vq32) rfl (by kernel_rfl) (by kernel_rfl) (by kernel_rfl) (fun _ _ _ h => h) (Or.inl ⟨by rfl, ?yq32⟩) trivial ?rq32
          case yq32 => (intro w hSw; go_simp; (try with_reducible rfl))
          try simp only [Act.put, List.setIfInBounds_toArray, List.set_cons_zero, List.set_cons_succ]
          refine wpAnyH_ready (rs := [11]) (by kernel_rfl) (by simp) ?_
          refine AllReadyH.cons (i := 11) rfl (fun K hK => ?_) AllReadyH.nil
          go_simp
          refine hK.out _ _ trivial (fun _ => ?_)
          clear hK K
          refine wpAnyH_done (by kernel_rfl) ?_ _
          go_wp2_with (fail)
          go_meet
          case rel => exact ⟨_, _, _, _, HREL.out.1⟩
         exact AllReadyH.nil
        exact AllReadyH.nil
       refine AllReadyH.cons (o := { dst := some 25, op := Op.load 55 (Operand.tmp 24), type := 55, pos := "law.go:194", after := #[{ on := 5, ground := Ground.data }], guard := none }) rfl (fun K hK => ?_) ?_
       ·
        have xc : Vz0z4.cell? ⟨q, 1, none⟩ = some (.slice A' M c') := (hcur.cell (p := ⟨q, 1, none⟩) hql).trans x1
        go_simp
        refine hK.out _ _ trivial (fun _ => ?_)
        clear hK K xc
        try simp only [Act.put, List.setIfInBounds_toArray, List.set_cons_zero, List.set_cons_succ]
        refine wpAnyH_ready (rs := [3]) (by kernel_rfl) (by simp) ?_
        refine AllReadyH.cons (o := { dst := some 22, op := Op.call { callee := Callee.builtin Builtin.append, args := #[Operand.tmp 19, Operand.tmp 21], argTypes := #[54, 54] }, type := 54, pos := "law.go:194", after := #[{ on := 0, ground := Ground.data }, { on := 2, ground := Ground.data }], guard := none }) rfl (fun K hK => ?_) ?_
        ·
         have hl4 : h4 < Vz0z4.heap.size := hb4.lt
         have hl0 : h0 < Vz0z4.heap.size := hb0.lt
         refine step_app rfl (.tmp 19) (.tmp 21) 54 rfl 68 i0 _ Try.underlying54 hi0 hz0 hz1 hz2 rfl h0 rfl hb0 A N c (jc l1) rfl HNC.out HL1.out (HJ.out.keep hcur) HON.out (Nat.le_trans hN66 (by omega)) (fun g3 k3 W3 hor3 hle3 hmx3 ow3 hgr => ?_)
         have hge : wc.heap.size ≤ Vz0z4.heap.size := hcur.size
         have hwg3 : wc.heap.size ≤ g3 := by rcases hor3 with e | e <;> omega
         replace hb4 := hb4.grown hgr (by simp only [ne_eq, Option.some.injEq]; omega)
         have hne3 : g3 ≠ h4 := by rcases hor3 with e | e <;> omega
         replace hcur : Below wc.heap.size wc W3 := hcur.grown hgr hge (fun k hk => by injection hk with hk; omega)
         clear hgr hge
         refine hK.out _ _ trivial (fun _ => ?_)
         clear hK K hor3
         try simp only [Act.put, List.setIfInBounds_toArray, List.set_cons_zero, List.set_cons_succ]
         refine wpAnyH_take (i := 8) (oi := { dst := some 27, op := Op.fieldAddr 57 (Operand.tmp 1) 0, type := 0, pos := "law.go:194", after := #[{ on := 0, ground := Ground.phase }, { on := 1, ground := Ground.phase }, { on := 2, ground := Ground.phase }, { on := 3, ground := Ground.phase }, { on := 4, ground := Ground.textOnly Departure.lateStores }, { on := 5, ground := Ground.phase }, { on := 6, ground := Ground.phase }, { on := 7, ground := Ground.textOnly Departure.lateStoresUnsure }], guard := none }) (v := ?vq33) rfl (by kernel_rfl) (by kernel_rfl) (by kernel_rfl) (fun _ _ _ h => h) (Or.inl ⟨by rfl, ?yq33⟩) trivial ?rq33
         case yq33 => (intro w hSw; go_simp; (try with_reducible rfl))
         try simp only [Act.put, List.setIfInBounds_toArray, List.set_cons_zero, List.set_cons_succ]
         refine wpAnyH_ready (rs := [7]) (by kernel_rfl) (by simp) ?_
         refine AllReadyH.cons (o := { dst := some 26, op := Op.call { callee := Callee.builtin Builtin.append, args := #[Operand.tmp 23, Operand.tmp 25], argTypes := #[55, 55] }, type := 55, pos := "law.go:194", after := #[{ on := 4, ground := Ground.data }, { on := 6, ground := Ground.data }, { on := 3, ground := Ground.chain }], guard := none }) rfl (fun K hK => ?_) ?_
         ·
          refine step_app rfl (.tmp 23) (.tmp 25) 55 rfl 66 i1 _ Try.underlying55 hj0 hj1 hj2 hj3 rfl h4 rfl hb4 A' M c' (jc l2) rfl HMC.out HL2.out (HQ.out.keep hcur) HON2.out (Nat.le_trans hM66 (by omega)) (fun g7 k7 W7 hor7 hle7 hmx7 ow7 hgr => ?_)
          have hge : wc.heap.size ≤ W3.heap.size := hcur.size
          have hwg7 : wc.heap.size ≤ g7 := by rcases hor7 with e | e <;> omega
          replace ow3 := ow3.grown hgr (by simp only [ne_eq, Option.some.injEq]; omega)
          replace hcur : Below wc.heap.size wc W7 := hcur.grown hgr hge (fun k hk => by injection hk with hk; omega)
          clear hgr hge
          refine hK.out _ _ trivial (fun _ => ?_)
          clear hK K hor7
          try simp only [Act.put, List.setIfInBounds_toArray, List.set_cons_zero, List.set_cons_succ]
          have HREL := Lib.hid (shop_rel HS.out hcur ow3 ow7 hqq hql hq1l hwg3 hwg7)
          have z0 : W7.cell? ⟨q, 0, none⟩ = some (.slice A N c) := (hcur.cell (p := ⟨q, 0, none⟩) hql).trans x0
          have z1 : (W7.setCell ⟨q, 0, none⟩ (.slice (some ⟨g3, 0, none⟩) N k3)).cell? ⟨q, 1, none⟩ = some (.slice A' M c') := HREL.out.2.1
          have f0 : W7.frozen? ⟨q, 0, none⟩ = false := HREL.out.2.2.1
          have f1 : (W7.setCell ⟨q, 0, none⟩ (.slice (some ⟨g3, 0, none⟩) N k3)).frozen? ⟨q, 1, none⟩ = false := HREL.out.2.2.2
          refine wpAnyH_ready (rs := [9]) (by kernel_rfl) (by simp) ?_
          refine AllReadyH.cons (i := 9) rfl (fun K hK => ?_) AllReadyH.nil
          go_simp
          refine hK.out _ _ trivial (fun _ => ?_)
          clear hK K
          try simp only [Act.put, List.setIfInBounds_toArray, List.set_cons_zero, List.set_cons_succ]
          refine wpAnyH_take (i := 10) (oi := { dst := some 28, op := Op.fieldAddr 57 (Operand.tmp 1) 1, type := 0, pos := "law.go:194", after := #[{ on := 0, ground := Ground.phase }, { on := 1, ground := Ground.phase }, { on := 2, ground := Ground.phase }, { on := 3, ground := Ground.phase }, { on := 4, ground := Ground.phase }, { on := 5, ground := Ground.phase }, { on := 6, ground := Ground.phase }, { on := 7, ground := Ground.phase }, { on := 8, ground := Ground.phase }, { on := 9, ground := Ground.phase }], guard := none }) (v := ?vq34) rfl (by kernel_rfl) (by kernel_rfl) (by kernel_rfl) (fun _ _ _ h => h) (Or.inl ⟨by rfl, ?yq34⟩) trivial ?rq34
          case yq34 => (intro w hSw; go_simp; (try with_reducible rfl))
          try simp only [Act.put, List.setIfInBounds_toArray, List.set_cons_zero, List.set_cons_succ]
          refine wpAnyH_ready (rs := [11]) (by kernel_rfl) (by simp) ?_
          refine AllReadyH.cons (i := 11) rfl (fun K hK => ?_) AllReadyH.nil
          go_simp
          refine hK.out _ _ trivial (fun _ => ?_)
          clear hK K
          refine wpAnyH_done (by kernel_rfl) ?_ _
          go_wp2_with (fail)
          go_meet
          case rel => exact ⟨_, _, _, _, HREL.out.1⟩
         exact AllReadyH.nil
        exact AllReadyH.nil
       exact AllReadyH.nil
      refine AllReadyH.cons (o := { dst := some 25, op := Op.load 55 (Operand.tmp 24), type := 55, pos := "law.go:194", after := #[{ on := 5, ground := Ground.data }], guard := none }) rfl (fun K hK => ?_) ?_
      ·
       have xc : Vz0.cell? ⟨q, 1, none⟩ = some (.slice A' M c') := (hcur.cell (p := ⟨q, 1, none⟩) hql).trans x1
       go_simp
       refine hK.out _ _ trivial (fun _ => ?_)
       clear hK K xc
       try simp only [Act.put, List.setIfInBounds_toArray, List.set_cons_zero, List.set_cons_succ]
       refine wpAnyH_ready (rs := [3, 4]) (by kernel_rfl) (by simp) ?_
       refine AllReadyH.cons (o := { dst := some 22, op := Op.call { callee := Callee.builtin Builtin.append, args := #[Operand.tmp 19, Operand.tmp 21], argTypes := #[54, 54] }, type := 54, pos := "law.go:194", after := #[{ on := 0, ground := Ground.data }, { on := 2, ground := Ground.data }], guard := none }) rfl (fun K hK => ?_) ?_
       ·
        have hl0 : h0 < Vz0.heap.size := hb0.lt
        refine step_app rfl (.tmp 19) (.tmp 21) 54 rfl 68 i0 _ Try.underlying54 hi0 hz0 hz1 hz2 rfl h0 rfl hb0 A N c (jc l1) rfl HNC.out HL1.out (HJ.out.keep hcur) HON.out (Nat.le_trans hN66 (by omega)) (fun g3 k3 W3 hor3 hle3 hmx3 ow3 hgr => ?_)
        have hge : wc.heap.size ≤ Vz0.heap.size := hcur.size
        have hwg3 : wc.heap.size ≤ g3 := by rcases hor3 with e | e <;> omega
        replace hcur : Below wc.heap.size wc W3 := hcur.grown hgr hge (fun k hk => by injection hk with hk; omega)
        clear hgr hge
        refine hK.out _ _ trivial (fun _ => ?_)
        clear hK K hor3
        try simp only [Act.put, List.setIfInBounds_toArray, List.set_cons_zero, List.set_cons_succ]
        refine wpAnyH_take (i := 8) (oi := { dst := some 27, op := Op.fieldAddr 57 (Operand.tmp 1) 0, type := 0, pos := "law.go:194", after := #[{ on := 0, ground := Ground.phase }, { on := 1, ground := Ground.phase }, { on := 2, ground := Ground.phase }, { on := 3, ground := Ground.phase }, { on := 4, ground := Ground.textOnly Departure.lateStores }, { on := 5, ground := Ground.phase }, { on := 6, ground := Ground.phase }, { on := 7, ground := Ground.textOnly Departure.lateStoresUnsure }], guard := none }) (v := ?vq35) rfl (by kernel_rfl) (by kernel_rfl) (by kernel_rfl) (fun _ _ _ h => h) (Or.inl ⟨by rfl, ?yq35⟩) trivial ?rq35
        case yq35 => (intro w hSw; go_simp; (try with_reducible rfl))
        try simp only [Act.put, List.setIfInBounds_toArray, List.set_cons_zero, List.set_cons_succ]
        refine wpAnyH_ready (rs := [4]) (by kernel_rfl) (by simp) ?_
        refine AllReadyH.cons (o := { dst := some 23, op := Op.buildSlice 55 0 #[], type := 55, pos := "law.go:194", after := #[], guard := none }) rfl (fun K hK => ?_) ?_
        ·
         go_simp
         have hb4 : Blk 66 (W3.alloc (.cells #[] 66)) W3.heap.size [] := Blk.new W3 66 []
         have hge4 : wc.heap.size ≤ W3.heap.size := hcur.size
         have hlo : g3 < W3.heap.size := ow3.lt
         replace ow3 := ow3.alloc (.cells #[] 66)
         replace hcur := hcur.alloc hcur.size (.cells #[] 66)
         refine hK.out _ _ trivial (fun _ => ?_)
         clear hK K
         generalize W3.heap.size = h4 at *
         generalize W3.alloc (.cells #[] 66) = W3z4 at *
         try simp only [Act.put, List.setIfInBounds_toArray, List.set_cons_zero, List.set_cons_succ]
         have hne3 : g3 ≠ h4 := Nat.ne_of_lt hlo
         refine wpAnyH_ready (rs := [7]) (by kernel_rfl) (by simp) ?_
         refine AllReadyH.cons (o := { dst := some 26, op := Op.call { callee := Callee.builtin Builtin.append, args := #[Operand.tmp 23, Operand.tmp 25], argTypes := #[55, 55] }, type := 55, pos := "law.go:194", after := #[{ on := 4, ground := Ground.data }, { on := 6, ground := Ground.data }, { on := 3, ground := Ground.chain }], guard := none }) rfl (fun K hK => ?_) ?_
         ·
          refine step_app rfl (.tmp 23) (.tmp 25) 55 rfl 66 i1 _ Try.underlying55 hj0 hj1 hj2 hj3 rfl h4 rfl hb4 A' M c' (jc l2) rfl HMC.out HL2.out (HQ.out.keep hcur) HON2.out (Nat.le_trans hM66 (by omega)) (fun g7 k7 W7 hor7 hle7 hmx7 ow7 hgr => ?_)
          have hge : wc.heap.size ≤ W3z4.heap.size := hcur.size
          have hwg7 : wc.heap.size ≤ g7 := by rcases hor7 with e | e <;> omega
          replace ow3 := ow3.grown hgr (by simp only [ne_eq, Option.some.injEq]; omega)
          replace hcur : Below wc.heap.size wc W7 := hcur.grown hgr hge (fun k hk => by injection hk with hk; omega)
          clear hgr hge
          refine hK.out _ _ trivial (fun _ => ?_)
          clear hK K hor7
          try simp only [Act.put, List.setIfInBounds_toArray, List.set_cons_zero, List.set_cons_succ]
          have HREL := Lib.hid (shop_rel HS.out hcur ow3 ow7 hqq hql hq1l hwg3 hwg7)
          have z0 : W7.cell? ⟨q, 0, none⟩ = some (.slice A N c) := (hcur.cell (p := ⟨q, 0, none⟩) hql).trans x0
          have z1 : (W7.setCell ⟨q, 0, none⟩ (.slice (some ⟨g3, 0, none⟩) N k3)).cell? ⟨q, 1, none⟩ = some (.slice A' M c') := HREL.out.2.1
          have f0 : W7.frozen? ⟨q, 0, none⟩ = false := HREL.out.2.2.1
          have f1 : (W7.setCell ⟨q, 0, none⟩ (.slice (some ⟨g3, 0, none⟩) N k3)).frozen? ⟨q, 1, none⟩ = false := HREL.out.2.2.2
          refine wpAnyH_ready (rs := [9]) (by kernel_rfl) (by simp) ?_
          refine AllReadyH.cons (i := 9) rfl (fun K hK => ?_) AllReadyH.nil
          go_simp
          refine hK.out _ _ trivial (fun _ => ?_)
          clear hK K
          try simp only [Act.put, List.setIfInBounds_toArray, List.set_cons_zero, List.set_cons_succ]
          refine wpAnyH_take (i := 10) (oi := { dst := some 28, op := Op.fieldAddr 57 (Operand.tmp 1) 1, type := 0, pos := "law.go:194", after := #[{ on := 0, ground := Ground.phase }, { on := 1, ground := Ground.phase }, { on := 2, ground := Ground.phase }, { on := 3, ground := Ground.phase }, { on := 4, ground := Ground.phase }, { on := 5, ground := Ground.phase }, { on := 6, ground := Ground.phase }, { on := 7, ground := Ground.phase }, { on := 8, ground := Ground.phase }, { on := 9, ground := Ground.phase }], guard := none }) (v := ?vq36) rfl (by kernel_rfl) (by kernel_rfl) (by kernel_rfl) (fun _ _ _ h => h) (Or.inl ⟨by rfl, ?yq36⟩) trivial ?rq36
          case yq36 => (intro w hSw; go_simp; (try with_reducible rfl))
          try simp only [Act.put, List.setIfInBounds_toArray, List.set_cons_zero, List.set_cons_succ]
          refine wpAnyH_ready (rs := [11]) (by kernel_rfl) (by simp) ?_
          refine AllReadyH.cons (i := 11) rfl (fun K hK => ?_) AllReadyH.nil
          go_simp
          refine hK.out _ _ trivial (fun _ => ?_)
          clear hK K
          refine wpAnyH_done (by kernel_rfl) ?_ _
          go_wp2_with (fail)
          go_meet
          case rel => exact ⟨_, _, _, _, HREL.out.1⟩
         exact AllReadyH.nil
        exact AllReadyH.nil
       refine AllReadyH.cons (o := { dst := some 23, op := Op.buildSlice 55 0 #[], type := 55, pos := "law.go:194", after := #[], guard := none }) rfl (fun K hK => ?_) ?_
       ·
        go_simp
        have hb4 : Blk 66 (Vz0.alloc (.cells #[] 66)) Vz0.heap.size [] := Blk.new Vz0 66 []
        have hge4 : wc.heap.size ≤ Vz0.heap.size := hcur.size
        have hlo : h0 < Vz0.heap.size := hb0.lt
        replace hb0 := hb0.alloc (.cells #[] 66)
        replace hcur := hcur.alloc hcur.size (.cells #[] 66)
        refine hK.out _ _ trivial (fun _ => ?_)
        clear hK K
        generalize Vz0.heap.size = h4 at *
        generalize Vz0.alloc (.cells #[] 66) = Vz0z4 at *
        try simp only [Act.put, List.setIfInBounds_toArray, List.set_cons_zero, List.set_cons_succ]
        have hne : h4 ≠ h0 := Nat.ne_of_gt hlo
        refine wpAnyH_ready (rs := [3]) (by kernel_rfl) (by simp) ?_
        refine AllReadyH.cons (o := { dst := some 22, op := Op.call { callee := Callee.builtin Builtin.append, args := #[Operand.tmp 19, Operand.tmp 21], argTypes := #[54, 54] }, type := 54, pos := "law.go:194", after := #[{ on := 0, ground := Ground.data }, { on := 2, ground := Ground.data }], guard := none }) rfl (fun K hK => ?_) ?_
        ·
         have hl4 : h4 < Vz0z4.heap.size := hb4.lt
         have hl0 : h0 < Vz0z4.heap.size := hb0.lt
         refine step_app rfl (.tmp 19) (.tmp 21) 54 rfl 68 i0 _ Try.underlying54 hi0 hz0 hz1 hz2 rfl h0 rfl hb0 A N c (jc l1) rfl HNC.out HL1.out (HJ.out.keep hcur) HON.out (Nat.le_trans hN66 (by omega)) (fun g3 k3 W3 hor3 hle3 hmx3 ow3 hgr => ?_)
         have hge : wc.heap.size ≤ Vz0z4.heap.size := hcur.size
         have hwg3 : wc.heap.size ≤ g3 := by rcases hor3 with e | e <;> omega
         replace hb4 := hb4.grown hgr (by simp only [ne_eq, Option.some.injEq]; omega)
         have hne3 : g3 ≠ h4 := by rcases hor3 with e | e <;> omega
         replace hcur : Below wc.heap.size wc W3 := hcur.grown hgr hge (fun k hk => by injection hk with hk; omega)
         clear hgr hge
         refine hK.out _ _ trivial (fun _ => ?_)
         clear hK K hor3
         try simp only [Act.put, List.setIfInBounds_toArray, List.set_cons_zero, List.set_cons_succ]
         refine wpAnyH_take (i := 8) (oi := { dst := some 27, op := Op.fieldAddr 57 (Operand.tmp 1) 0, type := 0, pos := "law.go:194", after := #[{ on := 0, ground := Ground.phase }, { on := 1, ground := Ground.phase }, { on := 2, ground := Ground.phase }, { on := 3, ground := Ground.phase }, { on := 4, ground := Ground.textOnly Departure.lateStores }, { on := 5, ground := Ground.phase }, { on := 6, ground := Ground.phase }, { on := 7, ground := Ground.textOnly Departure.lateStoresUnsure }], guard := none }) (v := ?vq37) rfl (by kernel_rfl) (by kernel_rfl) (by kernel_rfl) (fun _ _ _ h => h) (Or.inl ⟨by rfl, ?yq37⟩) trivial ?rq37
         case yq37 => (intro w hSw; go_simp; (try with_reducible rfl))
         try simp only [Act.put, List.setIfInBounds_toArray, List.set_cons_zero, List.set_cons_succ]
         refine wpAnyH_ready (rs := [7]) (by kernel_rfl) (by simp) ?_
         refine AllReadyH.cons (o := { dst := some 26, op := Op.call { callee := Callee.builtin Builtin.append, args := #[Operand.tmp 23, Operand.tmp 25], argTypes := #[55, 55] }, type := 55, pos := "law.go:194", after := #[{ on := 4, ground := Ground.data }, { on := 6, ground := Ground.data }, { on := 3, ground := Ground.chain }], guard := none }) rfl (fun K hK => ?_) ?_
         ·
          refine step_app rfl (.tmp 23) (.tmp 25) 55 rfl 66 i1 _ Try.underlying55 hj0 hj1 hj2 hj3 rfl h4 rfl hb4 A' M c' (jc l2) rfl HMC.out HL2.out (HQ.out.keep hcur) HON2.out (Nat.le_trans hM66 (by omega)) (fun g7 k7 W7 hor7 hle7 hmx7 ow7 hgr => ?_)
          have hge : wc.heap.size ≤ W3.heap.size := hcur.size
          have hwg7 : wc.heap.size ≤ g7 := by rcases hor7 with e | e <;> omega
          replace ow3 := ow3.grown hgr (by simp only [ne_eq, Option.some.injEq]; omega)
          replace hcur : Below wc.heap.size wc W7 := hcur.grown hgr hge (fun k hk => by injection hk with hk; omega)
          clear hgr hge
          refine hK.out _ _ trivial (fun _ => ?_)
          clear hK K hor7
          try simp only [Act.put, List.setIfInBounds_toArray, List.set_cons_zero, List.set_cons_succ]
          have HREL := Lib.hid (shop_rel HS.out hcur ow3 ow7 hqq hql hq1l hwg3 hwg7)
          have z0 : W7.cell? ⟨q, 0, none⟩ = some (.slice A N c) := (hcur.cell (p := ⟨q, 0, none⟩) hql).trans x0
          have z1 : (W7.setCell ⟨q, 0, none⟩ (.slice (some ⟨g3, 0, none⟩) N k3)).cell? ⟨q, 1, none⟩ = some (.slice A' M c') := HREL.out.2.1
          have f0 : W7.frozen? ⟨q, 0, none⟩ = false := HREL.out.2.2.1
          have f1 : (W7.setCell ⟨q, 0, none⟩ (.slice (some ⟨g3, 0, none⟩) N k3)).frozen? ⟨q, 1, none⟩ = false := HREL.out.2.2.2
          refine wpAnyH_ready (rs := [9]) (by kernel_rfl) (by simp) ?_
          refine AllReadyH.cons (i := 9) rfl (fun K hK => ?_) AllReadyH.nil
          go_simp
          refine hK.out _ _ trivial (fun _ => ?_)
          clear hK K
          try simp only [Act.put, List.setIfInBounds_toArray, List.set_cons_zero, List.set_cons_succ]
          refine wpAnyH_take (i := 10) (oi := { dst := some 28, op := Op.fieldAddr 57 (Operand.tmp 1) 1, type := 0, pos := "law.go:194", after := #[{ on := 0, ground := Ground.phase }, { on := 1, ground := Ground.phase }, { on := 2, ground := Ground.phase }, { on := 3, ground := Ground.phase }, { on := 4, ground := Ground.phase }, { on := 5, ground := Ground.phase }, { on := 6, ground := Ground.phase }, { on := 7, ground := Ground.phase }, { on := 8, ground := Ground.phase }, { on := 9, ground := Ground.phase }], guard := none }) (v := ?vq38) rfl (by kernel_rfl) (by kernel_rfl) (by kernel_rfl) (fun _ _ _ h => h) (Or.inl ⟨by rfl, ?yq38⟩) trivial ?rq38
          case yq38 => (intro w hSw; go_simp; (try with_reducible rfl))
          try simp only [Act.put, List.setIfInBounds_toArray, List.set_cons_zero, List.set_cons_succ]
          refine wpAnyH_ready (rs := [11]) (by kernel_rfl) (by simp) ?_
          refine AllReadyH.cons (i := 11) rfl (fun K hK => ?_) AllReadyH.nil
          go_simp
          refine hK.out _ _ trivial (fun _ => ?_)
          clear hK K
          refine wpAnyH_done (by kernel_rfl) ?_ _
          go_wp2_with (fail)
          go_meet
          case rel => exact ⟨_, _, _, _, HREL.out.1⟩
         exact AllReadyH.nil
        exact AllReadyH.nil
       exact AllReadyH.nil
      exact AllReadyH.nil
     refine AllReadyH.cons (o := { dst := some 23, op := Op.buildSlice 55 0 #[], type := 55, pos := "law.go:194", after := #[], guard := none }) rfl (fun K hK => ?_) ?_
     ·
      go_simp
      have hb4 : Blk 66 (V.alloc (.cells #[] 66)) V.heap.size [] := Blk.new V 66 []
      have hge4 : wc.heap.size ≤ V.heap.size := hcur.size
      replace hcur := hcur.alloc hcur.size (.cells #[] 66)
      refine hK.out _ _ trivial (fun _ => ?_)
      clear hK K
      generalize V.heap.size = h4 at *
      generalize V.alloc (.cells #[] 66) = Vz4 at *
      try simp only [Act.put, List.setIfInBounds_toArray, List.set_cons_zero, List.set_cons_succ]
      refine wpAnyH_ready (rs := [0, 6]) (by kernel_rfl) (by simp) ?_
      refine AllReadyH.cons (o := { dst := some 19, op := Op.buildSlice 54 0 #[], type := 54, pos := "law.go:194", after := #[], guard := none }) rfl (fun K hK => ?_) ?_
      ·
       go_simp
       have hb0 : Blk 68 (Vz4.alloc (.cells #[] 68)) Vz4.heap.size [] := Blk.new Vz4 68 []
       have hge0 : wc.heap.size ≤ Vz4.heap.size := hcur.size
       have hlo : h4 < Vz4.heap.size := hb4.lt
       replace hb4 := hb4.alloc (.cells #[] 68)
       replace hcur := hcur.alloc hcur.size (.cells #[] 68)
       refine hK.out _ _ trivial (fun _ => ?_)
       clear hK K
       generalize Vz4.heap.size = h0 at *
       generalize Vz4.alloc (.cells #[] 68) = Vz4z0 at *
       try simp only [Act.put, List.setIfInBounds_toArray, List.set_cons_zero, List.set_cons_succ]
       have hne : h0 ≠ h4 := Nat.ne_of_gt hlo
       refine wpAnyH_ready (rs := [3, 6]) (by kernel_rfl) (by simp) ?_
       refine AllReadyH.cons (o := { dst := some 22, op := Op.call { callee := Callee.builtin Builtin.append, args := #[Operand.tmp 19, Operand.tmp 21], argTypes := #[54, 54] }, type := 54, pos := "law.go:194", after := #[{ on := 0, ground := Ground.data }, { on := 2, ground := Ground.data }], guard := none }) rfl (fun K hK => ?_) ?_
       ·
        have hl4 : h4 < Vz4z0.heap.size := hb4.lt
        have hl0 : h0 < Vz4z0.heap.size := hb0.lt
        refine step_app rfl (.tmp 19) (.tmp 21) 54 rfl 68 i0 _ Try.underlying54 hi0 hz0 hz1 hz2 rfl h0 rfl hb0 A N c (jc l1) rfl HNC.out HL1.out (HJ.out.keep hcur) HON.out (Nat.le_trans hN66 (by omega)) (fun g3 k3 W3 hor3 hle3 hmx3 ow3 hgr => ?_)
        have hge : wc.heap.size ≤ Vz4z0.heap.size := hcur.size
        have hwg3 : wc.heap.size ≤ g3 := by rcases hor3 with e | e <;> omega
        replace hb4 := hb4.grown hgr (by simp only [ne_eq, Option.some.injEq]; omega)
        have hne3 : g3 ≠ h4 := by rcases hor3 with e | e <;> omega
        replace hcur : Below wc.heap.size wc W3 := hcur.grown hgr hge (fun k hk => by injection hk with hk; omega)
        clear hgr hge
        refine hK.out _ _ trivial (fun _ => ?_)
        clear hK K hor3
        try simp only [Act.put, List.setIfInBounds_toArray, List.set_cons_zero, List.set_cons_succ]
        refine wpAnyH_ready (rs := [6]) (by kernel_rfl) (by simp) ?_
        refine AllReadyH.cons (o := { dst := some 25, op := Op.load 55 (Operand.tmp 24), type := 55, pos := "law.go:194", after := #[{ on := 5, ground := Ground.data }], guard := none }) rfl (fun K hK => ?_) ?_
        ·
         have xc : W3.cell? ⟨q, 1, none⟩ = some (.slice A' M c') := (hcur.cell (p := ⟨q, 1, none⟩) hql).trans x1
         go_simp
         refine hK.out _ _ trivial (fun _ => ?_)
         clear hK K xc
         try simp only [Act.put, List.setIfInBounds_toArray, List.set_cons_zero, List.set_cons_succ]
         refine wpAnyH_take (i := 8) (oi := { dst := some 27, op := Op.fieldAddr 57 (Operand.tmp 1) 0, type := 0, pos := "law.go:194", after := #[{ on := 0, ground := Ground.phase }, { on := 1, ground := Ground.phase }, { on := 2, ground := Ground.phase }, { on := 3, ground := Ground.phase }, { on := 4, ground := Ground.textOnly Departure.lateStores }, { on := 5, ground := Ground.phase }, { on := 6, ground := Ground.phase }, { on := 7, ground := Ground.textOnly Departure.lateStoresUnsure }], guard := none }) (v := ?vq39) rfl (by kernel_rfl) (by kernel_rfl) (by kernel_rfl) (fun _ _ _ h => h) (Or.inl ⟨by rfl, ?yq39⟩) trivial ?rq39
         case yq39 => (intro w hSw; go_simp; (try with_reducible rfl))
         try simp only [Act.put, List.setIfInBounds_toArray, List.set_cons_zero, List.set_cons_succ]
         refine wpAnyH_ready (rs := [7]) (by kernel_rfl) (by simp) ?_
         refine AllReadyH.cons (o := { dst := some 26, op := Op.call { callee := Callee.builtin Builtin.append, args := #[Operand.tmp 23, Operand.tmp 25], argTypes := #[55, 55] }, type := 55, pos := "law.go:194", after := #[{ on := 4, ground := Ground.data }, { on := 6, ground := Ground.data }, { on := 3, ground := Ground.chain }], guard := none }) rfl (fun K hK => ?_) ?_
         ·
          refine step_app rfl (.tmp 23) (.tmp 25) 55 rfl 66 i1 _ Try.underlying55 hj0 hj1 hj2 hj3 rfl h4 rfl hb4 A' M c' (jc l2) rfl HMC.out HL2.out (HQ.out.keep hcur) HON2.out (Nat.le_trans hM66 (by omega)) (fun g7 k7 W7 hor7 hle7 hmx7 ow7 hgr => ?_)
          have hge : wc.heap.size ≤ W3.heap.size := hcur.size
          have hwg7 : wc.heap.size ≤ g7 := by rcases hor7 with e | e <;> omega
          replace ow3 := ow3.grown hgr (by simp only [ne_eq, Option.some.injEq]; omega)
          replace hcur : Below wc.heap.size wc W7 := hcur.grown hgr hge (fun k hk => by injection hk with hk; omega)
          clear hgr hge
          refine hK.out _ _ trivial (fun _ => ?_)
          clear hK K hor7
          try simp only [Act.put, List.setIfInBounds_toArray, List.set_cons_zero, List.set_cons_succ]
          have HREL := Lib.hid (shop_rel HS.out hcur ow3 ow7 hqq hql hq1l hwg3 hwg7)
          have z0 : W7.cell? ⟨q, 0, none⟩ = some (.slice A N c) := (hcur.cell (p := ⟨q, 0, none⟩) hql).trans x0
          have z1 : (W7.setCell ⟨q, 0, none⟩ (.slice (some ⟨g3, 0, none⟩) N k3)).cell? ⟨q, 1, none⟩ = some (.slice A' M c') := HREL.out.2.1
          have f0 : W7.frozen? ⟨q, 0, none⟩ = false := HREL.out.2.2.1
          have f1 : (W7.setCell ⟨q, 0, none⟩ (.slice (some ⟨g3, 0, none⟩) N k3)).frozen? ⟨q, 1, none⟩ = false := HREL.out.2.2.2
          refine wpAnyH_ready (rs := [9]) (by kernel_rfl) (by simp) ?_
          refine AllReadyH.cons (i := 9) rfl (fun K hK => ?_) AllReadyH.nil
          go_simp
          refine hK.out _ _ trivial (fun _ => ?_)
          clear hK K
          try simp only [Act.put, List.setIfInBounds_toArray, List.set_cons_zero, List.set_cons_succ]
          refine wpAnyH_take (i := 10) (oi := { dst := some 28, op := Op.fieldAddr 57 (Operand.tmp 1) 1, type := 0, pos := "law.go:194", after := #[{ on := 0, ground := Ground.phase }, { on := 1, ground := Ground.phase }, { on := 2, ground := Ground.phase }, { on := 3, ground := Ground.phase }, { on := 4, ground := Ground.phase }, { on := 5, ground := Ground.phase }, { on := 6, ground := Ground.phase }, { on := 7, ground := Ground.phase }, { on := 8, ground := Ground.phase }, { on := 9, ground := Ground.phase }], guard := none }) (v := ?vq40) rfl (by kernel_rfl) (by kernel_rfl) (by kernel_rfl) (fun _ _ _ h => h) (Or.inl ⟨by rfl, ?yq40⟩) trivial ?rq40
          case yq40 => (intro w hSw; go_simp; (try with_reducible rfl))
          try simp only [Act.put, List.setIfInBounds_toArray, List.set_cons_zero, List.set_cons_succ]
          refine wpAnyH_ready (rs := [11]) (by kernel_rfl) (by simp) ?_
          refine AllReadyH.cons (i := 11) rfl (fun K hK => ?_) AllReadyH.nil
          go_simp
          refine hK.out _ _ trivial (fun _ => ?_)
          clear hK K
          refine wpAnyH_done (by kernel_rfl) ?_ _
          go_wp2_with (fail)
          go_meet
          case rel => exact ⟨_, _, _, _, HREL.out.1⟩
         exact AllReadyH.nil
        exact AllReadyH.nil
       refine AllReadyH.cons (o := { dst := some 25, op := Op.load 55 (Operand.tmp 24), type := 55, pos := "law.go:194", after := #[{ on := 5, ground := Ground.data }], guard := none }) rfl (fun K hK => ?_) ?_
       ·
        have xc : Vz4z0.cell? ⟨q, 1, none⟩ = some (.slice A' M c') := (hcur.cell (p := ⟨q, 1, none⟩) hql).trans x1
        go_simp
        refine hK.out _ _ trivial (fun _ => ?_)
        clear hK K xc
        try simp only [Act.put, List.setIfInBounds_toArray, List.set_cons_zero, List.set_cons_succ]
        refine wpAnyH_ready (rs := [3]) (by kernel_rfl) (by simp) ?_
        refine AllReadyH.cons (o := { dst := some 22, op := Op.call { callee := Callee.builtin Builtin.append, args := #[Operand.tmp 19, Operand.tmp 21], argTypes := #[54, 54] }, type := 54, pos := "law.go:194", after := #[{ on := 0, ground := Ground.data }, { on := 2, ground := Ground.data }], guard := none }) rfl (fun K hK => ?_) ?_
        ·
         have hl4 : h4 < Vz4z0.heap.size := hb4.lt
         have hl0 : h0 < Vz4z0.heap.size := hb0.lt
         refine step_app rfl (.tmp 19) (.tmp 21) 54 rfl 68 i0 _ Try.underlying54 hi0 hz0 hz1 hz2 rfl h0 rfl hb0 A N c (jc l1) rfl HNC.out HL1.out (HJ.out.keep hcur) HON.out (Nat.le_trans hN66 (by omega)) (fun g3 k3 W3 hor3 hle3 hmx3 ow3 hgr => ?_)
         have hge : wc.heap.size ≤ Vz4z0.heap.size := hcur.size
         have hwg3 : wc.heap.size ≤ g3 := by rcases hor3 with e | e <;> omega
         replace hb4 := hb4.grown hgr (by simp only [ne_eq, Option.some.injEq]; omega)
         have hne3 : g3 ≠ h4 := by rcases hor3 with e | e <;> omega
         replace hcur : Below wc.heap.size wc W3 := hcur.grown hgr hge (fun k hk => by injection hk with hk; omega)
         clear hgr hge
         refine hK.out _ _ trivial (fun _ => ?_)
         clear hK K hor3
         try simp only [Act.put, List.setIfInBounds_toArray, List.set_cons_zero, List.set_cons_succ]
         refine wpAnyH_take (i := 8) (oi := { dst := some 27, op := Op.fieldAddr 57 (Operand.tmp 1) 0, type := 0, pos := "law.go:194", after := #[{ on := 0, ground := Ground.phase }, { on := 1, ground := Ground.phase }, { on := 2, ground := Ground.phase }, { on := 3, ground := Ground.phase }, { on := 4, ground := Ground.textOnly Departure.lateStores }, { on := 5, ground := Ground.phase }, { on := 6, ground := Ground.phase }, { on := 7, ground := Ground.textOnly Departure.lateStoresUnsure }], guard := none }) (v := ?vq41) rfl (by kernel_rfl) (by kernel_rfl) (by kernel_rfl) (fun _ _ _ h => h) (Or.inl ⟨by rfl, ?yq41⟩) trivial ?rq41
         case yq41 => (intro w hSw; go_simp; (try with_reducible rfl))
         try simp only [Act.put, List.setIfInBounds_toArray, List.set_cons_zero, List.set_cons_succ]
         refine wpAnyH_ready (rs := [7]) (by kernel_rfl) (by simp) ?_
         refine AllReadyH.cons (o := { dst := some 26, op := Op.call { callee := Callee.builtin Builtin.append, args := #[Operand.tmp 23, Operand.tmp 25], argTypes := #[55, 55] }, type := 55, pos := "law.go:194", after := #[{ on := 4, ground := Ground.data }, { on := 6, ground := Ground.data }, { on := 3, ground := Ground.chain }], guard := none }) rfl (fun K hK => ?_) ?_
         ·
          refine step_app rfl (.tmp 23) (.tmp 25) 55 rfl 66 i1 _ Try.underlying55 hj0 hj1 hj2 hj3 rfl h4 rfl hb4 A' M c' (jc l2) rfl HMC.out HL2.out (HQ.out.keep hcur) HON2.out (Nat.le_trans hM66 (by omega)) (fun g7 k7 W7 hor7 hle7 hmx7 ow7 hgr => ?_)
          have hge : wc.heap.size ≤ W3.heap.size := hcur.size
          have hwg7 : wc.heap.size ≤ g7 := by rcases hor7 with e | e <;> omega
          replace ow3 := ow3.grown hgr (by simp only [ne_eq, Option.some.injEq]; omega)
          replace hcur : Below wc.heap.size wc W7 := hcur.grown hgr hge (fun k hk => by injection hk with hk; omega)
          clear hgr hge
          refine hK.out _ _ trivial (fun _ => ?_)
          clear hK K hor7
          try simp only [Act.put, List.setIfInBounds_toArray, List.set_cons_zero, List.set_cons_succ]
          have HREL := Lib.hid (shop_rel HS.out hcur ow3 ow7 hqq hql hq1l hwg3 hwg7)
          have z0 : W7.cell? ⟨q, 0, none⟩ = some (.slice A N c) := (hcur.cell (p := ⟨q, 0, none⟩) hql).trans x0
          have z1 : (W7.setCell ⟨q, 0, none⟩ (.slice (some ⟨g3, 0, none⟩) N k3)).cell? ⟨q, 1, none⟩ = some (.slice A' M c') := HREL.out.2.1
          have f0 : W7.frozen? ⟨q, 0, none⟩ = false := HREL.out.2.2.1
          have f1 : (W7.setCell ⟨q, 0, none⟩ (.slice (some ⟨g3, 0, none⟩) N k3)).frozen? ⟨q, 1, none⟩ = false := HREL.out.2.2.2
          refine wpAnyH_ready (rs := [9]) (by kernel_rfl) (by simp) ?_
          refine AllReadyH.cons (i := 9) rfl (fun K hK => ?_) AllReadyH.nil
          go_simp
          refine hK.out _ _ trivial (fun _ => ?_)
          clear hK K
          try simp only [Act.put, List.setIfInBounds_toArray, List.set_cons_zero, List.set_cons_succ]
          refine wpAnyH_take (i := 10) (oi := { dst := some 28, op := Op.fieldAddr 57 (Operand.tmp 1) 1, type := 0, pos := "law.go:194", after := #[{ on := 0, ground := Ground.phase }, { on := 1, ground := Ground.phase }, { on := 2, ground := Ground.phase }, { on := 3, ground := Ground.phase }, { on := 4, ground := Ground.phase }, { on := 5, ground := Ground.phase }, { on := 6, ground := Ground.phase }, { on := 7, ground := Ground.phase }, { on := 8, ground := Ground.phase }, { on := 9, ground := Ground.phase }], guard := none }) (v := ?vq42) rfl (by kernel_rfl) (by kernel_rfl) (by kernel_rfl) (fun _ _ _ h => h) (Or.inl ⟨by rfl, ?yq42⟩) trivial ?rq42
          case yq42 => (intro w hSw; go_simp; (try with_reducible rfl))
          try simp only [Act.put, List.setIfInBounds_toArray, List.set_cons_zero, List.set_cons_succ]
          refine wpAnyH_ready (rs := [11]) (by kernel_rfl) (by simp) ?_
          refine AllReadyH.cons (i := 11) rfl (fun K hK => ?_) AllReadyH.nil
          go_simp
          refine hK.out _ _ trivial (fun _ => ?_)
          clear hK K
          refine wpAnyH_done (by kernel_rfl) ?_ _
          go_wp2_with (fail)
          go_meet
          case rel => exact ⟨_, _, _, _, HREL.out.1⟩
         exact AllReadyH.nil
        exact AllReadyH.nil
       exact AllReadyH.nil
      refine AllReadyH.cons (o := { dst := some 25, op := Op.load 55 (Operand.tmp 24), type := 55, pos := "law.go:194", after := #[{ on := 5, ground := Ground.data }], guard := none }) rfl (fun K hK => ?_) ?_
      ·
       have xc : Vz4.cell? ⟨q, 1, none⟩ = some (.slice A' M c') := (hcur.cell (p := ⟨q, 1, none⟩) hql).trans x1
       go_simp
       refine hK.out _ _ trivial (fun _ => ?_)
       clear hK K xc
       try simp only [Act.put, List.setIfInBounds_toArray, List.set_cons_zero, List.set_cons_succ]
       refine wpAnyH_ready (rs := [0]) (by kernel_rfl) (by simp) ?_
       refine AllReadyH.cons (o := { dst := some 19, op := Op.buildSlice 54 0 #[], type := 54, pos := "law.go:194", after := #[], guard := none }) rfl (fun K hK => ?_) ?_
       ·
        go_simp
        have hb0 : Blk 68 (Vz4.alloc (.cells #[] 68)) Vz4.heap.size [] := Blk.new Vz4 68 []
        have hge0 : wc.heap.size ≤ Vz4.heap.size := hcur.size
        have hlo : h4 < Vz4.heap.size := hb4.lt
        replace hb4 := hb4.alloc (.cells #[] 68)
        replace hcur := hcur.alloc hcur.size (.cells #[] 68)
        refine hK.out _ _ trivial (fun _ => ?_)
        clear hK K
        generalize Vz4.heap.size = h0 at *
        generalize Vz4.alloc (.cells #[] 68) = Vz4z0 at *
        try simp only [Act.put, List.setIfInBounds_toArray, List.set_cons_zero, List.set_cons_succ]
        have hne : h0 ≠ h4 := Nat.ne_of_gt hlo
        refine wpAnyH_ready (rs := [3]) (by kernel_rfl) (by simp) ?_
        refine AllReadyH.cons (o := { dst := some 22, op := Op.call { callee := Callee.builtin Builtin.append, args := #[Operand.tmp 19, Operand.tmp 21], argTypes := #[54, 54] }, type := 54, pos := "law.go:194", after := #[{ on := 0, ground := Ground.data }, { on := 2, ground := Ground.data }], guard := none }) rfl (fun K hK => ?_) ?_
        ·
         have hl4 : h4 < Vz4z0.heap.size := hb4.lt
         have hl0 : h0 < Vz4z0.heap.size := hb0.lt
         refine step_app rfl (.tmp 19) (.tmp 21) 54 rfl 68 i0 _ Try.underlying54 hi0 hz0 hz1 hz2 rfl h0 rfl hb0 A N c (jc l1) rfl HNC.out HL1.out (HJ.out.keep hcur) HON.out (Nat.le_trans hN66 (by omega)) (fun g3 k3 W3 hor3 hle3 hmx3 ow3 hgr => ?_)
         have hge : wc.heap.size ≤ Vz4z0.heap.size := hcur.size
         have hwg3 : wc.heap.size ≤ g3 := by rcases hor3 with e | e <;> omega
         replace hb4 := hb4.grown hgr (by simp only [ne_eq, Option.some.injEq]; omega)
         have hne3 : g3 ≠ h4 := by rcases hor3 with e | e <;> omega
         replace hcur : Below wc.heap.size wc W3 := hcur.grown hgr hge (fun k hk => by injection hk with hk; omega)
         clear hgr hge
         refine hK.out _ _ trivial (fun _ => ?_)
         clear hK K hor3
         try simp only [Act.put, List.setIfInBounds_toArray, List.set_cons_zero, List.set_cons_succ]
         refine wpAnyH_take (i := 8) (oi := { dst := some 27, op := Op.fieldAddr 57 (Operand.tmp 1) 0, type := 0, pos := "law.go:194", after := #[{ on := 0, ground := Ground.phase }, { on := 1, ground := Ground.phase }, { on := 2, ground := Ground.phase }, { on := 3, ground := Ground.phase }, { on := 4, ground := Ground.textOnly Departure.lateStores }, { on := 5, ground := Ground.phase }, { on := 6, ground := Ground.phase }, { on := 7, ground := Ground.textOnly Departure.lateStoresUnsure }], guard := none }) (v := ?vq43) rfl (by kernel_rfl) (by kernel_rfl) (by kernel_rfl) (fun _ _ _ h => h) (Or.inl ⟨by rfl, ?yq43⟩) trivial ?rq43
         case yq43 => (intro w hSw; go_simp; (try with_reducible rfl))
         try simp only [Act.put, List.setIfInBounds_toArray, List.set_cons_zero, List.set_cons_succ]
         refine wpAnyH_ready (rs := [7]) (by kernel_rfl) (by simp) ?_
         refine AllReadyH.cons (o := { dst := some 26, op := Op.call { callee := Callee.builtin Builtin.append, args := #[Operand.tmp 23, Operand.tmp 25], argTypes := #[55, 55] }, type := 55, pos := "law.go:194", after := #[{ on := 4, ground := Ground.data }, { on := 6, ground := Ground.data }, { on := 3, ground := Ground.chain }], guard := none }) rfl (fun K hK => ?_) ?_
         ·
          refine step_app rfl (.tmp 23) (.tmp 25) 55 rfl 66 i1 _ Try.underlying55 hj0 hj1 hj2 hj3 rfl h4 rfl hb4 A' M c' (jc l2) rfl HMC.out HL2.out (HQ.out.keep hcur) HON2.out (Nat.le_trans hM66 (by omega)) (fun g7 k7 W7 hor7 hle7 hmx7 ow7 hgr => ?_)
          have hge : wc.heap.size ≤ W3.heap.size := hcur.size
          have hwg7 : wc.heap.size ≤ g7 := by rcases hor7 with e | e <;> omega
          replace ow3 := ow3.grown hgr (by simp only [ne_eq, Option.some.injEq]; omega)
          replace hcur : Below wc.heap.size wc W7 := hcur.grown hgr hge (fun k hk => by injection hk with hk; omega)
          clear hgr hge
          refine hK.out _ _ trivial (fun _ => ?_)
          clear hK K hor7
          try simp only [Act.put, List.setIfInBounds_toArray, List.set_cons_zero, List.set_cons_succ]
          have HREL := Lib.hid (shop_rel HS.out hcur ow3 ow7 hqq hql hq1l hwg3 hwg7)
          have z0 : W7.cell? ⟨q, 0, none⟩ = some (.slice A N c) := (hcur.cell (p := ⟨q, 0, none⟩) hql).trans x0
          have z1 : (W7.setCell ⟨q, 0, none⟩ (.slice (some ⟨g3, 0, none⟩) N k3)).cell? ⟨q, 1, none⟩ = some (.slice A' M c') := HREL.out.2.1
          have f0 : W7.frozen? ⟨q, 0, none⟩ = false := HREL.out.2.2.1
          have f1 : (W7.setCell ⟨q, 0, none⟩ (.slice (some ⟨g3, 0, none⟩) N k3)).frozen? ⟨q, 1, none⟩ = false := HREL.out.2.2.2
          refine wpAnyH_ready (rs := [9]) (by kernel_rfl) (by simp) ?_
          refine AllReadyH.cons (i := 9) rfl (fun K hK => ?_) AllReadyH.nil
          go_simp
          refine hK.out _ _ trivial (fun _ => ?_)
          clear hK K
          try simp only [Act.put, List.setIfInBounds_toArray, List.set_cons_zero, List.set_cons_succ]
          refine wpAnyH_take (i := 10) (oi := { dst := some 28, op := Op.fieldAddr 57 (Operand.tmp 1) 1, type := 0, pos := "law.go:194", after := #[{ on := 0, ground := Ground.phase }, { on := 1, ground := Ground.phase }, { on := 2, ground := Ground.phase }, { on := 3, ground := Ground.phase }, { on := 4, ground := Ground.phase }, { on := 5, ground := Ground.phase }, { on := 6, ground := Ground.phase }, { on := 7, ground := Ground.phase }, { on := 8, ground := Ground.phase }, { on := 9, ground := Ground.phase }], guard := none }) (v := ?vq44) rfl (by kernel_rfl) (by kernel_rfl) (by kernel_rfl) (fun _ _ _ h => h) (Or.inl ⟨by rfl, ?yq44⟩) trivial ?rq44
          case yq44 => (intro w hSw; go_simp; (try with_reducible rfl))
          try simp only [Act.put, List.setIfInBounds_toArray, List.set_cons_zero, List.set_cons_succ]
          refine wpAnyH_ready (rs := [11]) (by kernel_rfl) (by simp) ?_
          refine AllReadyH.cons (i := 11) rfl (fun K hK => ?_) AllReadyH.nil
          go_simp
          refine hK.out _ _ trivial (fun _ => ?_)
          clear hK K
          refine wpAnyH_done (by kernel_rfl) ?_ _
          go_wp2_with (fail)
          go_meet
          case rel => exact ⟨_, _, _, _, HREL.out.1⟩
         exact AllReadyH.nil
        exact AllReadyH.nil
       exact AllReadyH.nil
      exact AllReadyH.nil
     refine AllReadyH.cons (o := { dst := some 25, op := Op.load 55 (Operand.tmp 24), type := 55, pos := "law.go:194", after := #[{ on := 5, ground := Ground.data }], guard := none }) rfl (fun K hK => ?_) ?_
     ·
      have xc : V.cell? ⟨q, 1, none⟩ = some (.slice A' M c') := (hcur.cell (p := ⟨q, 1, none⟩) hql).trans x1
      go_simp
      refine hK.out _ _ trivial (fun _ => ?_)
      clear hK K xc
      try simp only [Act.put, List.setIfInBounds_toArray, List.set_cons_zero, List.set_cons_succ]
      refine wpAnyH_ready (rs := [0, 4]) (by kernel_rfl) (by simp) ?_
      refine AllReadyH.cons (o := { dst := some 19, op := Op.buildSlice 54 0 #[], type := 54, pos := "law.go:194", after := #[], guard := none }) rfl (fun K hK => ?_) ?_
      ·
       go_simp
       have hb0 : Blk 68 (V.alloc (.cells #[] 68)) V.heap.size [] := Blk.new V 68 []
       have hge0 : wc.heap.size ≤ V.heap.size := hcur.size
       replace hcur := hcur.alloc hcur.size (.cells #[] 68)
       refine hK.out _ _ trivial (fun _ => ?_)
       clear hK K
       generalize V.heap.size = h0 at *
       generalize V.alloc (.cells #[] 68) = Vz0 at *
       try simp only [Act.put, List.setIfInBounds_toArray, List.set_cons_zero, List.set_cons_succ]
       refine wpAnyH_ready (rs := [3, 4]) (by kernel_rfl) (by simp) ?_
       refine AllReadyH.cons (o := { dst := some 22, op := Op.call { callee := Callee.builtin Builtin.append, args := #[Operand.tmp 19, Operand.tmp 21], argTypes := #[54, 54] }, type := 54, pos := "law.go:194", after := #[{ on := 0, ground := Ground.data }, { on := 2, ground := Ground.data }], guard := none }) rfl (fun K hK => ?_) ?_
       ·
        have hl0 : h0 < Vz0.heap.size := hb0.lt
        refine step_app rfl (.tmp 19) (.tmp 21) 54 rfl 68 i0 _ Try.underlying54 hi0 hz0 hz1 hz2 rfl h0 rfl hb0 A N c (jc l1) rfl HNC.out HL1.out (HJ.out.keep hcur) HON.out (Nat.le_trans hN66 (by omega)) (fun g3 k3 W3 hor3 hle3 hmx3 ow3 hgr => ?_)
        have hge : wc.heap.size ≤ Vz0.heap.size := hcur.size
        have hwg3 : wc.heap.size ≤ g3 := by rcases hor3 with e | e <;> omega
        replace hcur : Below wc.heap.size wc W3 := hcur.grown hgr hge (fun k hk => by injection hk with hk; omega)
        clear hgr hge
        refine hK.out _ _ trivial (fun _ => ?_)
        clear hK K hor3
        try simp only [Act.put, List.setIfInBounds_toArray, List.set_cons_zero, List.set_cons_succ]
        refine wpAnyH_take (i := 8) (oi := { dst := some 27, op := Op.fieldAddr 57 (Operand.tmp 1) 0, type := 0, pos := "law.go:194", after := #[{ on := 0, ground := Ground.phase }, { on := 1, ground := Ground.phase }, { on := 2, ground := Ground.phase }, { on := 3, ground := Ground.phase }, { on := 4, ground := Ground.textOnly Departure.lateStores }, { on := 5, ground := Ground.phase }, { on := 6, ground := Ground.phase }, { on := 7, ground := Ground.textOnly Departure.lateStoresUnsure }], guard := none }) (v := ?vq45) rfl (by kernel_rfl) (by kernel_rfl) (by kernel_rfl) (fun _ _ _ h => h) (Or.inl ⟨by rfl, ?yq45⟩) trivial ?rq45
        case yq45 => (intro w hSw; go_simp; (try with_reducible rfl))
        try simp only [Act.put, List.setIfInBounds_toArray, List.set_cons_zero, List.set_cons_succ]
        refine wpAnyH_ready (rs := [4]) (by kernel_rfl) (by simp) ?_
        refine AllReadyH.cons (o := { dst := some 23, op := Op.buildSlice 55 0 #[], type := 55, pos := "law.go:194", after := #[], guard := none }) rfl (fun K hK => ?_) ?_
        ·
         go_simp
         have hb4 : Blk 66 (W3.alloc (.cells #[] 66)) W3.heap.size [] := Blk.new W3 66 []
         have hge4 : wc.heap.size ≤ W3.heap.size := hcur.size
         have hlo : g3 < W3.heap.size := ow3.lt
         replace ow3 := ow3.alloc (.cells #[] 66)
         replace hcur := hcur.alloc hcur.size (.cells #[] 66)
         refine hK.out _ _ trivial (fun _ => ?_)
         clear hK K
         generalize W3.heap.size = h4 at *
         generalize W3.alloc (.cells #[] 66) = W3z4 at *
         try simp only [Act.put, List.setIfInBounds_toArray, List.set_cons_zero, List.set_cons_succ]
         have hne3 : g3 ≠ h4 := Nat.ne_of_lt hlo
         refine wpAnyH_ready (rs := [7]) (by kernel_rfl) (by simp) ?_
         refine AllReadyH.cons (o := { dst := some 26, op := Op.call { callee := Callee.builtin Builtin.append, args := #[Operand.tmp 23, Operand.tmp 25], argTypes := #[55, 55] }, type := 55, pos := "law.go:194", after := #[{ on := 4, ground := Ground.data }, { on := 6, ground := Ground.data }, { on := 3, ground := Ground.chain }], guard := none }) rfl (fun K hK => ?_) ?_
         ·
          refine step_app rfl (.tmp 23) (.tmp 25) 55 rfl 66 i1 _ Try.underlying55 hj0 hj1 hj2 hj3 rfl h4 rfl hb4 A' M c' (jc l2) rfl HMC.out HL2.out (HQ.out.keep hcur) HON2.out (Nat.le_trans hM66 (by omega)) (fun g7 k7 W7 hor7 hle7 hmx7 ow7 hgr => ?_)
          have hge : wc.heap.size ≤ W3z4.heap.size := hcur.size
          have hwg7 : wc.heap.size ≤ g7 := by rcases hor7 with e | e <;> omega
          replace ow3 := ow3.grown hgr (by simp only [ne_eq, Option.some.injEq]; omega)
          replace hcur : Below wc.heap.size wc W7 := hcur.grown hgr hge (fun k hk => by injection hk with hk; omega)
          clear hgr hge
          refine hK.out _ _ trivial (fun _ => ?_)
          clear hK K hor7
          try simp only [Act.put, List.setIfInBounds_toArray, List.set_cons_zero, List.set_cons_succ]
          have HREL := Lib.hid (shop_rel HS.out hcur ow3 ow7 hqq hql hq1l hwg3 hwg7)
          have z0 : W7.cell? ⟨q, 0, none⟩ = some (.slice A N c) := (hcur.cell (p := ⟨q, 0, none⟩) hql).trans x0
          have z1 : (W7.setCell ⟨q, 0, none⟩ (.slice (some ⟨g3, 0, none⟩) N k3)).cell? ⟨q, 1, none⟩ = some (.slice A' M c') := HREL.out.2.1
          have f0 : W7.frozen? ⟨q, 0, none⟩ = false := HREL.out.2.2.1
          have f1 : (W7.setCell ⟨q, 0, none⟩ (.slice (some ⟨g3, 0, none⟩) N k3)).frozen? ⟨q, 1, none⟩ = false := HREL.out.2.2.2
          refine wpAnyH_ready (rs := [9]) (by kernel_rfl) (by simp) ?_
          refine AllReadyH.cons (i := 9) rfl (fun K hK => ?_) AllReadyH.nil
          go_simp
          refine hK.out _ _ trivial (fun _ => ?_)
          clear hK K
          try simp only [Act.put, List.setIfInBounds_toArray, List.set_cons_zero, List.set_cons_succ]
          refine wpAnyH_take (i := 10) (oi := { dst := some 28, op := Op.fieldAddr 57 (Operand.tmp 1) 1, type := 0, pos := "law.go:194", after := #[{ on := 0, ground := Ground.phase }, { on := 1, ground := Ground.phase }, { on := 2, ground := Ground.phase }, { on := 3, ground := Ground.phase }, { on := 4, ground := Ground.phase }, { on := 5, ground := Ground.phase }, { on := 6, ground := Ground.phase }, { on := 7, ground := Ground.phase }, { on := 8, ground := Ground.phase }, { on := 9, ground := Ground.phase }], guard := none }) (v := ?vq46) rfl (by kernel_rfl) (by kernel_rfl) (by kernel_rfl) (fun _ _ _ h => h) (Or.inl ⟨by rfl, ?yq46⟩) trivial ?rq46
          case yq46 => (intro w hSw; go_simp; (try with_reducible rfl))
          try simp only [Act.put, List.setIfInBounds_toArray, List.set_cons_zero, List.set_cons_succ]
          refine wpAnyH_ready (rs := [11]) (by kernel_rfl) (by simp) ?_
          refine AllReadyH.cons (i := 11) rfl (fun K hK => ?_) AllReadyH.nil
          go_simp
          refine hK.out _ _ trivial (fun _ => ?_)
          clear hK K
          refine wpAnyH_done (by kernel_rfl) ?_ _
          go_wp2_with (fail)
          go_meet
          case rel => exact ⟨_, _, _, _, HREL.out.1⟩
         exact AllReadyH.nil
        exact AllReadyH.nil
       refine AllReadyH.cons (o := { dst := some 23, op := Op.buildSlice 55 0 #[], type := 55, pos := "law.go:194", after := #[], guard := none }) rfl (fun K hK => ?_) ?_
       ·
        go_simp
        have hb4 : Blk 66 (Vz0.alloc (.cells #[] 66)) Vz0.heap.size [] := Blk.new Vz0 66 []
        have hge4 : wc.heap.size ≤ Vz0.heap.size := hcur.size
        have hlo : h0 < Vz0.heap.size := hb0.lt
        replace hb0 := hb0.alloc (.cells #[] 66)
        replace hcur := hcur.alloc hcur.size (.cells #[] 66)
        refine hK.out _ _ trivial (fun _ => ?_)
        clear hK K
        generalize Vz0.heap.size = h4 at *
        generalize Vz0.alloc (.cells #[] 66) = Vz0z4 at *
        try simp only [Act.put, List.setIfInBounds_toArray, List.set_cons_zero, List.set_cons_succ]
        have hne : h4 ≠ h0 := Nat.ne_of_gt hlo
        refine wpAnyH_ready (rs := [3]) (by kernel_rfl) (by simp) ?_
        refine AllReadyH.cons (o := { dst := some 22, op := Op.call { callee := Callee.builtin Builtin.append, args := #[Operand.tmp 19, Operand.tmp 21], argTypes := #[54, 54] }, type := 54, pos := "law.go:194", after := #[{ on := 0, ground := Ground.data }, { on := 2, ground := Ground.data }], guard := none }) rfl (fun K hK => ?_) ?_
        ·
         have hl4 : h4 < Vz0z4.heap.size := hb4.lt
         have hl0 : h0 < Vz0z4.heap.size := hb0.lt
         refine step_app rfl (.tmp 19) (.tmp 21) 54 rfl 68 i0 _ Try.underlying54 hi0 hz0 hz1 hz2 rfl h0 rfl hb0 A N c (jc l1) rfl HNC.out HL1.out (HJ.out.keep hcur) HON.out (Nat.le_trans hN66 (by omega)) (fun g3 k3 W3 hor3 hle3 hmx3 ow3 hgr => ?_)
         have hge : wc.heap.size ≤ Vz0z4.heap.size := hcur.size
         have hwg3 : wc.heap.size ≤ g3 := by rcases hor3 with e | e <;> omega
         replace hb4 := hb4.grown hgr (by simp only [ne_eq, Option.some.injEq]; omega)
         have hne3 : g3 ≠ h4 := by rcases hor3 with e | e <;> omega
         replace hcur : Below wc.heap.size wc W3 := hcur.grown hgr hge (fun k hk => by injection hk with hk; omega)
         clear hgr hge
         refine hK.out _ _ trivial (fun _ => ?_)
         clear hK K hor3
         try simp only [Act.put, List.setIfInBounds_toArray, List.set_cons_zero, List.set_cons_succ]
         refine wpAnyH_take (i := 8) (oi := { dst := some 27, op := Op.fieldAddr 57 (Operand.tmp 1) 0, type := 0, pos := "law.go:194", after := #[{ on := 0, ground := Ground.phase }, { on := 1, ground := Ground.phase }, { on := 2, ground := Ground.phase }, { on := 3, ground := Ground.phase }, { on := 4, ground := Ground.textOnly Departure.lateStores }, { on := 5, ground := Ground.phase }, { on := 6, ground := Ground.phase }, { on := 7, ground := Ground.textOnly Departure.lateStoresUnsure }], guard := none }) (v := ?vq47) rfl (by kernel_rfl) (by kernel_rfl) (by kernel_rfl) (fun _ _ _ h => h) (Or.inl ⟨by rfl, ?yq47⟩) trivial ?rq47
         case yq47 => (intro w hSw; go_simp; (try with_reducible rfl))
         try simp only [Act.put, List.setIfInBounds_toArray, List.set_cons_zero, List.set_cons_succ]
         refine wpAnyH_ready (rs := [7]) (by kernel_rfl) (by simp) ?_
         refine AllReadyH.cons (o := { dst := some 26, op := Op.call { callee := Callee.builtin Builtin.append, args := #[Operand.tmp 23, Operand.tmp 25], argTypes := #[55, 55] }, type := 55, pos := "law.go:194", after := #[{ on := 4, ground := Ground.data }, { on := 6, ground := Ground.data }, { on := 3, ground := Ground.chain }], guard := none }) rfl (fun K hK => ?_) ?_
         ·
          refine step_app rfl (.tmp 23) (.tmp 25) 55 rfl 66 i1 _ Try.underlying55 hj0 hj1 hj2 hj3 rfl h4 rfl hb4 A' M c' (jc l2) rfl HMC.out HL2.out (HQ.out.keep hcur) HON2.out (Nat.le_trans hM66 (by omega)) (fun g7 k7 W7 hor7 hle7 hmx7 ow7 hgr => ?_)
          have hge : wc.heap.size ≤ W3.heap.size := hcur.size
          have hwg7 : wc.heap.size ≤ g7 := by rcases hor7 with e | e <;> omega
          replace ow3 := ow3.grown hgr (by simp only [ne_eq, Option.some.injEq]; omega)
          replace hcur : Below wc.heap.size wc W7 := hcur.grown hgr hge (fun k hk => by injection hk with hk; omega)
          clear hgr hge
          refine hK.out _ _ trivial (fun _ => ?_)
          clear hK K hor7
          try simp only [Act.put, List.setIfInBounds_toArray, List.set_cons_zero, List.set_cons_succ]
          have HREL := Lib.hid (shop_rel HS.out hcur ow3 ow7 hqq hql hq1l hwg3 hwg7)
          have z0 : W7.cell? ⟨q, 0, none⟩ = some (.slice A N c) := (hcur.cell (p := ⟨q, 0, none⟩) hql).trans x0
          have z1 : (W7.setCell ⟨q, 0, none⟩ (.slice (some ⟨g3, 0, none⟩) N k3)).cell? ⟨q, 1, none⟩ = some (.slice A' M c') := HREL.out.2.1
          have f0 : W7.frozen? ⟨q, 0, none⟩ = false := HREL.out.2.2.1
          have f1 : (W7.setCell ⟨q, 0, none⟩ (.slice (some ⟨g3, 0, none⟩) N k3)).frozen? ⟨q, 1, none⟩ = false := HREL.out.2.2.2
          refine wpAnyH_ready (rs := [9]) (by kernel_rfl) (by simp) ?_
          refine AllReadyH.cons (i := 9) rfl (fun K hK => ?_) AllReadyH.nil
          go_simp
          refine hK.out _ _ trivial (fun _ => ?_)
          clear hK K
          try simp only [Act.put, List.setIfInBounds_toArray, List.set_cons_zero, List.set_cons_succ]
          refine wpAnyH_take (i := 10) (oi := { dst := some 28, op := Op.fieldAddr 57 (Operand.tmp 1) 1, type := 0, pos := "law.go:194", after := #[{ on := 0, ground := Ground.phase }, { on := 1, ground := Ground.phase }, { on := 2, ground := Ground.phase }, { on := 3, ground := Ground.phase }, { on := 4, ground := Ground.phase }, { on := 5, ground := Ground.phase }, { on := 6, ground := Ground.phase }, { on := 7, ground := Ground.phase }, { on := 8, ground := Ground.phase }, { on := 9, ground := Ground.phase }], guard := none }) (v := ?vq48) rfl (by kernel_rfl) (by kernel_rfl) (by kernel_rfl) (fun _ _ _ h => h) (Or.inl ⟨by rfl, ?yq48⟩) trivial ?rq48
          case yq48 => (intro w hSw; go_simp; (try with_reducible rfl))
          try simp only [Act.put, List.setIfInBounds_toArray, List.set_cons_zero, List.set_cons_succ]
          refine wpAnyH_ready (rs := [11]) (by kernel_rfl) (by simp) ?_
          refine AllReadyH.cons (i := 11) rfl (fun K hK => ?_) AllReadyH.nil
          go_simp
          refine hK.out _ _ trivial (fun _ => ?_)
          clear hK K
          refine wpAnyH_done (by kernel_rfl) ?_ _
          go_wp2_with (fail)
          go_meet
          case rel => exact ⟨_, _, _, _, HREL.out.1⟩
         exact AllReadyH.nil
        exact AllReadyH.nil
       exact AllReadyH.nil
      refine AllReadyH.cons (o := { dst := some 23, op := Op.buildSlice 55 0 #[], type := 55, pos := "law.go:194", after := #[], guard := none }) rfl (fun K hK => ?_) ?_
      ·
       go_simp
       have hb4 : Blk 66 (V.alloc (.cells #[] 66)) V.heap.size [] := Blk.new V 66 []
       have hge4 : wc.heap.size ≤ V.heap.size := hcur.size
       replace hcur := hcur.alloc hcur.size (.cells #[] 66)
       refine hK.out _ _ trivial (fun _ => ?_)
       clear hK K
       generalize V.heap.size = h4 at *
       generalize V.alloc (.cells #[] 66) = Vz4 at *
       try simp only [Act.put, List.setIfInBounds_toArray, List.set_cons_zero, List.set_cons_succ]
       refine wpAnyH_ready (rs := [0]) (by kernel_rfl) (by simp) ?_
       refine AllReadyH.cons (o := { dst := some 19, op := Op.buildSlice 54 0 #[], type := 54, pos := "law.go:194", after := #[], guard := none }) rfl (fun K hK => ?_) ?_
       ·
        go_simp
        have hb0 : Blk 68 (Vz4.alloc (.cells #[] 68)) Vz4.heap.size [] := Blk.new Vz4 68 []
        have hge0 : wc.heap.size ≤ Vz4.heap.size := hcur.size
        have hlo : h4 < Vz4.heap.size := hb4.lt
        replace hb4 := hb4.alloc (.cells #[] 68)
        replace hcur := hcur.alloc hcur.size (.cells #[] 68)
        refine hK.out _ _ trivial (fun _ => ?_)
        clear hK K
        generalize Vz4.heap.size = h0 at *
        generalize Vz4.alloc (.cells #[] 68) = Vz4z0 at *
        try simp only [Act.put, List.setIfInBounds_toArray, List.set_cons_zero, List.set_cons_succ]
        have hne : h0 ≠ h4 := Nat.ne_of_gt hlo
        refine wpAnyH_ready (rs := [3]) (by kernel_rfl) (by simp) ?_
        refine AllReadyH.cons (o := { dst := some 22, op := Op.call { callee := Callee.builtin Builtin.append, args := #[Operand.tmp 19, Operand.tmp 21], argTypes := #[54, 54] }, type := 54, pos := "law.go:194", after := #[{ on := 0, ground := Ground.data }, { on := 2, ground := Ground.data }], guard := none }) rfl (fun K hK => ?_) ?_
        ·
         have hl4 : h4 < Vz4z0.heap.size := hb4.lt
         have hl0 : h0 < Vz4z0.heap.size := hb0.lt
         refine step_app rfl (.tmp 19) (.tmp 21) 54 rfl 68 i0 _ Try.underlying54 hi0 hz0 hz1 hz2 rfl h0 rfl hb0 A N c (jc l1) rfl HNC.out HL1.out (HJ.out.keep hcur) HON.out (Nat.le_trans hN66 (by omega)) (fun g3 k3 W3 hor3 hle3 hmx3 ow3 hgr => ?_)
         have hge : wc.heap.size ≤ Vz4z0.heap.size := hcur.size
         have hwg3 : wc.heap.size ≤ g3 := by rcases hor3 with e | e <;> omega
         replace hb4 := hb4.grown hgr (by simp only [ne_eq, Option.some.injEq]; omega)
         have hne3 : g3 ≠ h4 := by rcases hor3 with e | e <;> omega
         replace hcur : Below wc.heap.size wc W3 := hcur.grown hgr hge (fun k hk => by injection hk with hk; omega)
         clear hgr hge
         refine hK.out _ _ trivial (fun _ => ?_)
         clear hK K hor3
         try simp only [Act.put, List.setIfInBounds_toArray, List.set_cons_zero, List.set_cons_succ]
         refine wpAnyH_take (i := 8) (oi := { dst := some 27, op := Op.fieldAddr 57 (Operand.tmp 1) 0, type := 0, pos := "law.go:194", after := #[{ on := 0, ground := Ground.phase }, { on := 1, ground := Ground.phase }, { on := 2, ground := Ground.phase }, { on := 3, ground := Ground.phase }, { on := 4, ground := Ground.textOnly Departure.lateStores }, { on := 5, ground := Ground.phase }, { on := 6, ground := Ground.phase }, { on := 7, ground := Ground.textOnly Departure.lateStoresUnsure }], guard := none }) (v := ?vq49) rfl (by kernel_rfl) (by kernel_rfl) (by kernel_rfl) (fun _ _ _ h => h) (Or.inl ⟨by rfl, ?yq49⟩) trivial ?rq49
         case yq49 => (intro w hSw; go_simp; (try with_reducible rfl))
         try simp only [Act.put, List.setIfInBounds_toArray, List.set_cons_zero, List.set_cons_succ]
         refine wpAnyH_ready (rs := [7]) (by kernel_rfl) (by simp) ?_
         refine AllReadyH.cons (o := { dst := some 26, op := Op.call { callee := Callee.builtin Builtin.append, args := #[Operand.tmp 23, Operand.tmp 25], argTypes := #[55, 55] }, type := 55, pos := "law.go:194", after := #[{ on := 4, ground := Ground.data }, { on := 6, ground := Ground.data }, { on := 3, ground := Ground.chain }], guard := none }) rfl (fun K hK => ?_) ?_
         ·
          refine step_app rfl (.tmp 23) (.tmp 25) 55 rfl 66 i1 _ Try.underlying55 hj0 hj1 hj2 hj3 rfl h4 rfl hb4 A' M c' (jc l2) rfl HMC.out HL2.out (HQ.out.keep hcur) HON2.out (Nat.le_trans hM66 (by omega)) (fun g7 k7 W7 hor7 hle7 hmx7 ow7 hgr => ?_)
          have hge : wc.heap.size ≤ W3.heap.size := hcur.size
          have hwg7 : wc.heap.size ≤ g7 := by rcases hor7 with e | e <;> omega
          replace ow3 := ow3.grown hgr (by simp only [ne_eq, Option.some.injEq]; omega)
          replace hcur : Below wc.heap.size wc W7 := hcur.grown hgr hge (fun k hk => by injection hk with hk; omega)
          clear hgr hge
          refine hK.out _ _ trivial (fun _ => ?_)
          clear hK K hor7
          try simp only [Act.put, List.setIfInBounds_toArray, List.set_cons_zero, List.set_cons_succ]
          have HREL := Lib.hid (shop_rel HS.out hcur ow3 ow7 hqq hql hq1l hwg3 hwg7)
          have z0 : W7.cell? ⟨q, 0, none⟩ = some (.slice A N c) := (hcur.cell (p := ⟨q, 0, none⟩) hql).trans x0
          have z1 : (W7.setCell ⟨q, 0, none⟩ (.slice (some ⟨g3, 0, none⟩) N k3)).cell? ⟨q, 1, none⟩ = some (.slice A' M c') := HREL.out.2.1
          have f0 : W7.frozen? ⟨q, 0, none⟩ = false := HREL.out.2.2.1
          have f1 : (W7.setCell ⟨q, 0, none⟩ (.slice (some ⟨g3, 0, none⟩) N k3)).frozen? ⟨q, 1, none⟩ = false := HREL.out.2.2.2
          refine wpAnyH_ready (rs := [9]) (by kernel_rfl) (by simp) ?_
          refine AllReadyH.cons (i := 9) rfl (fun K hK => ?_) AllReadyH.nil
          go_simp
          refine hK.out _ _ trivial (fun _ => ?_)
          clear hK K
          try simp only [Act.put, List.setIfInBounds_toArray, List.set_cons_zero, List.set_cons_succ]
          refine wpAnyH_take (i := 10) (oi := { dst := some 28, op := Op.fieldAddr 57 (Operand.tmp 1) 1, type := 0, pos := "law.go:194", after := #[{ on := 0, ground := Ground.phase }, { on := 1, ground := Ground.phase }, { on := 2, ground := Ground.phase }, { on := 3, ground := Ground.phase }, { on := 4, ground := Ground.phase }, { on := 5, ground := Ground.phase }, { on := 6, ground := Ground.phase }, { on := 7, ground := Ground.phase }, { on := 8, ground := Ground.phase }, { on := 9, ground := Ground.phase }], guard := none }) (v := ?vq50) rfl (by kernel_rfl) (by kernel_rfl) (by kernel_rfl) (fun _ _ _ h => h) (Or.inl ⟨by rfl, ?yq50⟩) trivial ?rq50
          case yq50 => (intro w hSw; go_simp; (try with_reducible rfl))
          try simp only [Act.put, List.setIfInBounds_toArray, List.set_cons_zero, List.set_cons_succ]
          refine wpAnyH_ready (rs := [11]) (by kernel_rfl) (by simp) ?_
          refine AllReadyH.cons (i := 11) rfl (fun K hK => ?_) AllReadyH.nil
          go_simp
          refine hK.out _ _ trivial (fun _ => ?_)
          clear hK K
          refine wpAnyH_done (by kernel_rfl) ?_ _
          go_wp2_with (fail)
          go_meet
          case rel => exact ⟨_, _, _, _, HREL.out.1⟩
         exact AllReadyH.nil
        exact AllReadyH.nil
       exact AllReadyH.nil
      exact AllReadyH.nil
     exact AllReadyH.nil
    refine AllReadyH.cons (o := { dst := some 23, op := Op.buildSlice 55 0 #[], type := 55, pos := "law.go:194", after := #[], guard := none }) rfl (fun K hK => ?_) ?_
    ·
     go_simp
     have hb4 : Blk 66 (V.alloc (.cells #[] 66)) V.heap.size [] := Blk.new V 66 []
     have hge4 : wc.heap.size ≤ V.heap.size := hcur.size
     replace hcur := hcur.alloc hcur.size (.cells #[] 66)
     refine hK.out _ _ trivial (fun _ => ?_)
     clear hK K
     generalize V.heap.size = h4 at *
     generalize V.alloc (.cells #[] 66) = Vz4 at *
     try simp only [Act.put, List.setIfInBounds_toArray, List.set_cons_zero, List.set_cons_succ]
     refine wpAnyH_ready (rs := [0, 2, 6]) (by kernel_rfl) (by simp) ?_
     refine AllReadyH.cons (o := { dst := some 19, op := Op.buildSlice 54 0 #[], type := 54, pos := "law.go:194", after := #[], guard := none }) rfl (fun K hK => ?_) ?_
     ·
      go_simp
      have hb0 : Blk 68 (Vz4.alloc (.cells #[] 68)) Vz4.heap.size [] := Blk.new Vz4 68 []
      have hge0 : wc.heap.size ≤ Vz4.heap.size := hcur.size
      have hlo : h4 < Vz4.heap.size := hb4.lt
      replace hb4 := hb4.alloc (.cells #[] 68)
      replace hcur := hcur.alloc hcur.size (.cells #[] 68)
      refine hK.out _ _ trivial (fun _ => ?_)
      clear hK K
      generalize Vz4.heap.size = h0 at *
      generalize Vz4.alloc (.cells #[] 68) = Vz4z0 at *
      try simp only [Act.put, List.setIfInBounds_toArray, List.set_cons_zero, List.set_cons_succ]
      have hne : h0 ≠ h4 := Nat.ne_of_gt hlo
      refine wpAnyH_ready (rs := [2, 6]) (by kernel_rfl) (by simp) ?_
      refine AllReadyH.cons (o := { dst := some 21, op := Op.load 54 (Operand.tmp 20), type := 54, pos := "law.go:194", after := #[{ on := 1, ground := Ground.data }], guard := none }) rfl (fun K hK => ?_) ?_
      ·
       have xc : Vz4z0.cell? ⟨q, 0, none⟩ = some (.slice A N c) := (hcur.cell (p := ⟨q, 0, none⟩) hql).trans x0
       go_simp
       refine hK.out _ _ trivial (fun _ => ?_)
       clear hK K xc
       try simp only [Act.put, List.setIfInBounds_toArray, List.set_cons_zero, List.set_cons_succ]
       refine wpAnyH_ready (rs := [3, 6]) (by kernel_rfl) (by simp) ?_
       refine AllReadyH.cons (o := { dst := some 22, op := Op.call { callee := Callee.builtin Builtin.append, args := #[Operand.tmp 19, Operand.tmp 21], argTypes := #[54, 54] }, type := 54, pos := "law.go:194", after := #[{ on := 0, ground := Ground.data }, { on := 2, ground := Ground.data }], guard := none }) rfl (fun K hK => ?_) ?_
       ·
        have hl4 : h4 < Vz4z0.heap.size := hb4.lt
        have hl0 : h0 < Vz4z0.heap.size := hb0.lt
        refine step_app rfl (.tmp 19) (.tmp 21) 54 rfl 68 i0 _ Try.underlying54 hi0 hz0 hz1 hz2 rfl h0 rfl hb0 A N c (jc l1) rfl HNC.out HL1.out (HJ.out.keep hcur) HON.out (Nat.le_trans hN66 (by omega)) (fun g3 k3 W3 hor3 hle3 hmx3 ow3 hgr => ?_)
        have hge : wc.heap.size ≤ Vz4z0.heap.size := hcur.size
        have hwg3 : wc.heap.size ≤ g3 := by rcases hor3 with e | e <;> omega
        replace hb4 := hb4.grown hgr (by simp only [ne_eq, Option.some.injEq]; omega)
        have hne3 : g3 ≠ h4 := by rcases hor3 with e | e <;> omega
        replace hcur : Below wc.heap.size wc W3 := hcur.grown hgr hge (fun k hk => by injection hk with hk; omega)
        clear hgr hge
        refine hK.out _ _ trivial (fun _ => ?_)
        clear hK K hor3
        try simp only [Act.put, List.setIfInBounds_toArray, List.set_cons_zero, List.set_cons_succ]
        refine wpAnyH_ready (rs := [6]) (by kernel_rfl) (by simp) ?_
        refine AllReadyH.cons (o := { dst := some 25, op := Op.load 55 (Operand.tmp 24), type := 55, pos := "law.go:194", after := #[{ on := 5, ground := Ground.data }], guard := none }) rfl (fun K hK => ?_) ?_
        ·
         have xc : W3.cell? ⟨q, 1, none⟩ = some (.slice A' M c') := (hcur.cell (p := ⟨q, 1, none⟩) hql).trans x1
         go_simp
         refine hK.out _ _ trivial (fun _ => ?_)
         clear hK K xc
         try simp only [Act.put, List.setIfInBounds_toArray, List.set_cons_zero, List.set_cons_succ]
         refine wpAnyH_take (i := 8) (oi := { dst := some 27, op := Op.fieldAddr 57 (Operand.tmp 1) 0, type := 0, pos := "law.go:194", after := #[{ on := 0, ground := Ground.phase }, { on := 1, ground := Ground.phase }, { on := 2, ground := Ground.phase }, { on := 3, ground := Ground.phase }, { on := 4, ground := Ground.textOnly Departure.lateStores }, { on := 5, ground := Ground.phase }, { on := 6, ground := Ground.phase }, { on := 7, ground := Ground.textOnly Departure.lateStoresUnsure }], guard := none }) (v := ?vq51) rfl (by kernel_rfl) (by kernel_rfl) (by kernel_rfl) (fun _ _ _ h => h) (Or.inl ⟨by rfl, ?yq51⟩) trivial ?rq51
         case yq51 => (intro w hSw; go_simp; (try with_reducible rfl))
         try simp only [Act.put, List.setIfInBounds_toArray, List.set_cons_zero, List.set_cons_succ]
         refine wpAnyH_ready (rs := [7]) (by kernel_rfl) (by simp) ?_
         refine AllReadyH.cons (o := { dst := some 26, op := Op.call { callee := Callee.builtin Builtin.append, args := #[Operand.tmp 23, Operand.tmp 25], argTypes := #[55, 55] }, type := 55, pos := "law.go:194", after := #[{ on := 4, ground := Ground.data }, { on := 6, ground := Ground.data }, { on := 3, ground := Ground.chain }], guard := none }) rfl (fun K hK => ?_) ?_
         ·
          refine step_app rfl (.tmp 23) (.tmp 25) 55 rfl 66 i1 _ Try.underlying55 hj0 hj1 hj2 hj3 rfl h4 rfl hb4 A' M c' (jc l2) rfl HMC.out HL2.out (HQ.out.keep hcur) HON2.out (Nat.le_trans hM66 (by omega)) (fun g7 k7 W7 hor7 hle7 hmx7 ow7 hgr => ?_)
          have hge : wc.heap.size ≤ W3.heap.size := hcur.size
          have hwg7 : wc.heap.size ≤ g7 := by rcases hor7 with e | e <;> omega
          replace ow3 := ow3.grown hgr (by simp only [ne_eq, Option.some.injEq]; omega)
          replace hcur : Below wc.heap.size wc W7 := hcur.grown hgr hge (fun k hk => by injection hk with hk; omega)
          clear hgr hge
          refine hK.out _ _ trivial (fun _ => ?_)
          clear hK K hor7
          try simp only [Act.put, List.setIfInBounds_toArray, List.set_cons_zero, List.set_cons_succ]
          have HREL := Lib.hid (shop_rel HS.out hcur ow3 ow7 hqq hql hq1l hwg3 hwg7)
          have z0 : W7.cell? ⟨q, 0, none⟩ = some (.slice A N c) := (hcur.cell (p := ⟨q, 0, none⟩) hql).trans x0
          have z1 : (W7.setCell ⟨q, 0, none⟩ (.slice (some ⟨g3, 0, none⟩) N k3)).cell? ⟨q, 1, none⟩ = some (.slice A' M c') := HREL.out.2.1
          have f0 : W7.frozen? ⟨q, 0, none⟩ = false := HREL.out.2.2.1
          have f1 : (W7.setCell ⟨q, 0, none⟩ (.slice (some ⟨g3, 0, none⟩) N k3)).frozen? ⟨q, 1, none⟩ = false := HREL.out.2.2.2
          refine wpAnyH_ready (rs := [9]) (by kernel_rfl) (by simp) ?_
          refine AllReadyH.cons (i := 9) rfl (fun K hK => ?_) AllReadyH.nil
          go_simp
          refine hK.out _ _ trivial (fun _ => ?_)
          clear hK K
          try simp only [Act.put, List.setIfInBounds_toArray, List.set_cons_zero, List.set_cons_succ]
          refine wpAnyH_take (i := 10) (oi := { dst := some 28, op := Op.fieldAddr 57 (Operand.tmp 1) 1, type := 0, pos := "law.go:194", after := #[{ on := 0, ground := Ground.phase }, { on := 1, ground := Ground.phase }, { on := 2, ground := Ground.phase }, { on := 3, ground := Ground.phase }, { on := 4, ground := Ground.phase }, { on := 5, ground := Ground.phase }, { on := 6, ground := Ground.phase }, { on := 7, ground := Ground.phase }, { on := 8, ground := Ground.phase }, { on := 9, ground := Ground.phase }], guard := none }) (v := ?vq52) rfl (by kernel_rfl) (by kernel_rfl) (by kernel_rfl) (fun _ _ _ h => h) (Or.inl ⟨by rfl, ?yq52⟩) trivial ?rq52
          case yq52 => (intro w hSw; go_simp; (try with_reducible rfl))
          try simp only [Act.put, List.setIfInBounds_toArray, List.set_cons_zero, List.set_cons_succ]
          refine wpAnyH_ready (rs := [11]) (by kernel_rfl) (by simp) ?_
          refine AllReadyH.cons (i := 11) rfl (fun K hK => ?_) AllReadyH.nil
          go_simp
          refine hK.out _ _ trivial (fun _ => ?_)
          clear hK K
          refine wpAnyH_done (by kernel_rfl) ?_ _
          go_wp2_with (fail)
          go_meet
          case rel => exact ⟨_, _, _, _, HREL.out.1⟩
         exact AllReadyH.nil
        exact AllReadyH.nil
       refine AllReadyH.cons (o := { dst := some 25, op := Op.load 55 (Operand.tmp 24), type := 55, pos := "law.go:194", after := #[{ on := 5, ground := Ground.data }], guard := none }) rfl (fun K hK => ?_) ?_
       ·
        have xc : Vz4z0.cell? ⟨q, 1, none⟩ = some (.slice A' M c') := (hcur.cell (p := ⟨q, 1, none⟩) hql).trans x1
        go_simp
        refine hK.out _ _ trivial (fun _ => ?_)
        clear hK K xc
        try simp only [Act.put, List.setIfInBounds_toArray, List.set_cons_zero, List.set_cons_succ]
        refine wpAnyH_ready (rs := [3]) (by kernel_rfl) (by simp) ?_
        refine AllReadyH.cons (o := { dst := some 22, op := Op.call { callee := Callee.builtin Builtin.append, args := #[Operand.tmp 19, Operand.tmp 21], argTypes := #[54, 54] }, type := 54, pos := "law.go:194", after := #[{ on := 0, ground := Ground.data }, { on := 2, ground := Ground.data }], guard := none }) rfl (fun K hK => ?_) ?_
        ·
         have hl4 : h4 < Vz4z0.heap.size := hb4.lt
         have hl0 : h0 < Vz4z0.heap.size := hb0.lt
         refine step_app rfl (.tmp 19) (.tmp 21) 54 rfl 68 i0 _ Try.underlying54 hi0 hz0 hz1 hz2 rfl h0 rfl hb0 A N c (jc l1) rfl HNC.out HL1.out (HJ.out.keep hcur) HON.out (Nat.le_trans hN66 (by omega)) (fun g3 k3 W3 hor3 hle3 hmx3 ow3 hgr => ?_)
         have hge : wc.heap.size ≤ Vz4z0.heap.size := hcur.size
         have hwg3 : wc.heap.size ≤ g3 := by rcases hor3 with e | e <;> omega
         replace hb4 := hb4.grown hgr (by simp only [ne_eq, Option.some.injEq]; omega)
         have hne3 : g3 ≠ h4 := by rcases hor3 with e | e <;> omega
         replace hcur : Below wc.heap.size wc W3 := hcur.grown hgr hge (fun k hk => by injection hk with hk; omega)
         clear hgr hge
         refine hK.out _ _ trivial (fun _ => ?_)
         clear hK K hor3
         try simp only [Act.put, List.setIfInBounds_toArray, List.set_cons_zero, List.set_cons_succ]
         refine wpAnyH_take (i := 8) (oi := { dst := some 27, op := Op.fieldAddr 57 (Operand.tmp 1) 0, type := 0, pos := "law.go:194", after := #[{ on := 0, ground := Ground.phase }, { on := 1, ground := Ground.phase }, { on := 2, ground := Ground.phase }, { on := 3, ground := Ground.phase }, { on := 4, ground := Ground.textOnly Departure.lateStores }, { on := 5, ground := Ground.phase }, { on := 6, ground := Ground.phase }, { on := 7, ground := Ground.textOnly Departure.lateStoresUnsure }], guard := none }) (v := ?vq53) rfl (by kernel_rfl) (by kernel_rfl) (by kernel_rfl) (fun _ _ _ h => h) (Or.inl ⟨by rfl, ?yq53⟩) trivial ?rq53
         case yq53 => (intro w hSw; go_simp; (try with_reducible rfl))
         try simp only [Act.put, List.setIfInBounds_toArray, List.set_cons_zero, List.set_cons_succ]
         refine wpAnyH_ready (rs := [7]) (by kernel_rfl) (by simp) ?_
         refine AllReadyH.cons (o := { dst := some 26, op := Op.call { callee := Callee.builtin Builtin.append, args := #[Operand.tmp 23, Operand.tmp 25], argTypes := #[55, 55] }, type := 55, pos := "law.go:194", after := #[{ on := 4, ground := Ground.data }, { on := 6, ground := Ground.data }, { on := 3, ground := Ground.chain }], guard := none }) rfl (fun K hK => ?_) ?_
         ·
          refine step_app rfl (.tmp 23) (.tmp 25) 55 rfl 66 i1 _ Try.underlying55 hj0 hj1 hj2 hj3 rfl h4 rfl hb4 A' M c' (jc l2) rfl HMC.out HL2.out (HQ.out.keep hcur) HON2.out (Nat.le_trans hM66 (by omega)) (fun g7 k7 W7 hor7 hle7 hmx7 ow7 hgr => ?_)
          have hge : wc.heap.size ≤ W3.heap.size := hcur.size
          have hwg7 : wc.heap.size ≤ g7 := by rcases hor7 with e | e <;> omega
          replace ow3 := ow3.grown hgr (by simp only [ne_eq, Option.some.injEq]; omega)
          replace hcur : Below wc.heap.size wc W7 := hcur.grown hgr hge (fun k hk => by injection hk with hk; omega)
          clear hgr hge
          refine hK.out _ _ trivial (fun _ => ?_)
          clear hK K hor7
          try simp only [Act.put, List.setIfInBounds_toArray, List.set_cons_zero, List.set_cons_succ]
          have HREL := Lib.hid (shop_rel HS.out hcur ow3 ow7 hqq hql hq1l hwg3 hwg7)
          have z0 : W7.cell? ⟨q, 0, none⟩ = some (.slice A N c) := (hcur.cell (p := ⟨q, 0, none⟩) hql).trans x0
          have z1 : (W7.setCell ⟨q, 0, none⟩ (.slice (some ⟨g3, 0, none⟩) N k3)).cell? ⟨q, 1, none⟩ = some (.slice A' M c') := HREL.out.2.1
          have f0 : W7.frozen? ⟨q, 0, none⟩ = false := HREL.out.2.2.1
          have f1 : (W7.setCell ⟨q, 0, none⟩ (.slice (some ⟨g3, 0, none⟩) N k3)).frozen? ⟨q, 1, none⟩ = false := HREL.out.2.2.2
          refine wpAnyH_ready (rs := [9]) (by kernel_rfl) (by simp) ?_
          refine AllReadyH.cons (i := 9) rfl (fun K hK => ?_) AllReadyH.nil
          go_simp
          refine hK.out _ _ trivial (fun _ => ?_)
          clear hK K
          try simp only [Act.put, List.setIfInBounds_toArray, List.set_cons_zero, List.set_cons_succ]
          refine wpAnyH_take (i := 10) (oi := { dst := some 28, op := Op.fieldAddr 57 (Operand.tmp 1) 1, type := 0, pos := "law.go:194", after := #[{ on := 0, ground := Ground.phase }, { on := 1, ground := Ground.phase }, { on := 2, ground := Ground.phase }, { on := 3, ground := Ground.phase }, { on := 4, ground := Ground.phase }, { on := 5, ground := Ground.phase }, { on := 6, ground := Ground.phase }, { on := 7, ground := Ground.phase }, { on := 8, ground := Ground.phase }, { on := 9, ground := Ground.phase }], guard := none }) (v := ?vq54) rfl (by kernel_rfl) (by kernel_rfl) (by kernel_rfl) (fun _ _ _ h => h) (Or.inl ⟨by rfl, ?yq54⟩) trivial ?rq54
          case yq54 => (intro w hSw; go_simp; (try with_reducible rfl))
          try simp only [Act.put, List.setIfInBounds_toArray, List.set_cons_zero, List.set_cons_succ]
          refine wpAnyH_ready (rs := [11]) (by kernel_rfl) (by simp) ?_
          refine AllReadyH.cons (i := 11) rfl (fun K hK => ?_) AllReadyH.nil
          go_simp
          refine hK.out _ _ trivial (fun _ => ?_)
          clear hK K
          refine wpAnyH_done (by kernel_rfl) ?_ _
          go_wp2_with (fail)
          go_meet
          case rel => exact ⟨_, _, _, _, HREL.out.1⟩
         exact AllReadyH.nil
        exact AllReadyH.nil
       exact AllReadyH.nil
      refine AllReadyH.cons (o := { dst := some 25, op := Op.load 55 (Operand.tmp 24), type := 55, pos := "law.go:194", after := #[{ on := 5, ground := Ground.data }], guard := none }) rfl (fun K hK => ?_) ?_
      ·
       have xc : Vz4z0.cell? ⟨q, 1, none⟩ = some (.slice A' M c') := (hcur.cell (p := ⟨q, 1, none⟩) hql).trans x1
       go_simp
       refine hK.out _ _ trivial (fun _ => ?_)
       clear hK K xc
       try simp only [Act.put, List.setIfInBounds_toArray, List.set_cons_zero, List.set_cons_succ]
       refine wpAnyH_ready (rs := [2]) (by kernel_rfl) (by simp) ?_
       refine AllReadyH.cons (o := { dst := some 21, op := Op.load 54 (Operand.tmp 20), type := 54, pos := "law.go:194", after := #[{ on := 1, ground := Ground.data }], guard := none }) rfl (fun K hK => ?_) ?_
       ·
        have xc : Vz4z0.cell? ⟨q, 0, none⟩ = some (.slice A N c) := (hcur.cell (p := ⟨q, 0, none⟩) hql).trans x0
        go_simp
        refine hK.out _ _ trivial (fun _ => ?_)
        clear hK K xc
        try simp only [Act.put, List.setIfInBounds_toArray, List.set_cons_zero, List.set_cons_succ]
        refine wpAnyH_ready (rs := [3]) (by kernel_rfl) (by simp) ?_
        refine AllReadyH.cons (o := { dst := some 22, op := Op.call { callee := Callee.builtin Builtin.append, args := #[Operand.tmp 19, Operand.tmp 21], argTypes := #[54, 54] }, type := 54, pos := "law.go:194", after := #[{ on := 0, ground := Ground.data }, { on := 2, ground := Ground.data }], guard := none }) rfl (fun K hK => ?_) ?_
        ·
         have hl4 : h4 < Vz4z0.heap.size := hb4.lt
         have hl0 : h0 < Vz4z0.heap.size := hb0.lt
         refine step_app rfl (.tmp 19) (.tmp 21) 54 rfl 68 i0 _ Try.underlying54 hi0 hz0 hz1 hz2 rfl h0 rfl hb0 A N c (jc l1) rfl HNC.out HL1.out (HJ.out.keep hcur) HON.out (Nat.le_trans hN66 (by omega)) (fun g3 k3 W3 hor3 hle3 hmx3 ow3 hgr => ?_)
         have hge : wc.heap.size ≤ Vz4z0.heap.size := hcur.size
         have hwg3 : wc.heap.size ≤ g3 := by rcases hor3 with e | e <;> omega
         replace hb4 := hb4.grown hgr (by simp only [ne_eq, Option.some.injEq]; omega)
         have hne3 : g3 ≠ h4 := by rcases hor3 with e | e <;> omega
         replace hcur : Below wc.heap.size wc W3 := hcur.grown hgr hge (fun k hk => by injection hk with hk; omega)
         clear hgr hge
         refine hK.out _ _ trivial (fun _ => ?_)
         clear hK K hor3
         try simp only [Act.put, List.setIfInBounds_toArray, List.set_cons_zero, List.set_cons_succ]
         refine wpAnyH_take (i := 8) (oi := { dst := some 27, op := Op.fieldAddr 57 (Operand.tmp 1) 0, type := 0, pos := "law.go:194", after := #[{ on := 0, ground := Ground.phase }, { on := 1, ground := Ground.phase }, { on := 2, ground := Ground.phase }, { on := 3, ground := Ground.phase }, { on := 4, ground := Ground.textOnly Departure.lateStores }, { on := 5, ground := Ground.phase }, { on := 6, ground := Ground.phase }, { on := 7, ground := Ground.textOnly Departure.lateStoresUnsure }], guard := none }) (v := ?vq55) rfl (by kernel_rfl) (by kernel_rfl) (by kernel_rfl) (fun _ _ _ h => h) (Or.inl ⟨by rfl, ?yq55⟩) trivial ?rq55
         case yq55 => (intro w hSw; go_simp; (try with_reducible rfl))
         try simp only [Act.put, List.setIfInBounds_toArray, List.set_cons_zero, List.set_cons_succ]
         refine wpAnyH_ready (rs := [7]) (by kernel_rfl) (by simp) ?_
         refine AllReadyH.cons (o := { dst := some 26, op := Op.call { callee := Callee.builtin Builtin.append, args := #[Operand.tmp 23, Operand.tmp 25], argTypes := #[55, 55] }, type := 55, pos := "law.go:194", after := #[{ on := 4, ground := Ground.data }, { on := 6, ground := Ground.data }, { on := 3, ground := Ground.chain }], guard := none }) rfl (fun K hK => ?_) ?_
         ·
          refine step_app rfl (.tmp 23) (.tmp 25) 55 rfl 66 i1 _ Try.underlying55 hj0 hj1 hj2 hj3 rfl h4 rfl hb4 A' M c' (jc l2) rfl HMC.out HL2.out (HQ.out.keep hcur) HON2.out (Nat.le_trans hM66 (by omega)) (fun g7 k7 W7 hor7 hle7 hmx7 ow7 hgr => ?_)
          have hge : wc.heap.size ≤ W3.heap.size := hcur.size
          have hwg7 : wc.heap.size ≤ g7 := by rcases hor7 with e | e <;> omega
          replace ow3 := ow3.grown hgr (by simp only [ne_eq, Option.some.injEq]; omega)
          replace hcur : Below wc.heap.size wc W7 := hcur.grown hgr hge (fun k hk => by injection hk with hk; omega)
          clear hgr hge
          refine hK.out _ _ trivial (fun _ => ?_)
          clear hK K hor7
          try simp only [Act.put, List.setIfInBounds_toArray, List.set_cons_zero, List.set_cons_succ]
          have HREL := Lib.hid (shop_rel HS.out hcur ow3 ow7 hqq hql hq1l hwg3 hwg7)
          have z0 : W7.cell? ⟨q, 0, none⟩ = some (.slice A N c) := (hcur.cell (p := ⟨q, 0, none⟩) hql).trans x0
          have z1 : (W7.setCell ⟨q, 0, none⟩ (.slice (some ⟨g3, 0, none⟩) N k3)).cell? ⟨q, 1, none⟩ = some (.slice A' M c') := HREL.out.2.1
          have f0 : W7.frozen? ⟨q, 0, none⟩ = false := HREL.out.2.2.1
          have f1 : (W7.setCell ⟨q, 0, none⟩ (.slice (some ⟨g3, 0, none⟩) N k3)).frozen? ⟨q, 1, none⟩ = false := HREL.out.2.2.2
          refine wpAnyH_ready (rs := [9]) (by kernel_rfl) (by simp) ?_
          refine AllReadyH.cons (i := 9) rfl (fun K hK => ?_) AllReadyH.nil
          go_simp
          refine hK.out _ _ trivial (fun _ => ?_)
          clear hK K
          try simp only [Act.put, List.setIfInBounds_toArray, List.set_cons_zero, List.set_cons_succ]
          refine wpAnyH_take (i := 10) (oi := { dst := some 28, op := Op.fieldAddr 57 (Operand.tmp 1) 1, type := 0, pos := "law.go:194", after := #[{ on := 0, ground := Ground.phase }, { on := 1, ground := Ground.phase }, { on := 2, ground := Ground.phase }, { on := 3, ground := Ground.phase }, { on := 4, ground := Ground.phase }, { on := 5, ground := Ground.phase }, { on := 6, ground := Ground.phase }, { on := 7, ground := Ground.phase }, { on := 8, ground := Ground.phase }, { on := 9, ground := Ground.phase }], guard := none }) (v := ?vq56) rfl (by kernel_rfl) (by kernel_rfl) (by kernel_rfl) (fun _ _ _ h => h) (Or.inl ⟨by rfl, ?yq56⟩) trivial ?rq56
          case yq56 => (intro w hSw; go_simp; (try with_reducible rfl))
          try simp only [Act.put, List.setIfInBounds_toArray, List.set_cons_zero, List.set_cons_succ]
          refine wpAnyH_ready (rs := [11]) (by kernel_rfl) (by simp) ?_
          refine AllReadyH.cons (i := 11) rfl (fun K hK => ?_) AllReadyH.nil
          go_simp
          refine hK.out _ _ trivial (fun _ => ?_)
          clear hK K
          refine wpAnyH_done (by kernel_rfl) ?_ _
          go_wp2_with (fail)
          go_meet
          case rel => exact ⟨_, _, _, _, HREL.out.1⟩
         exact AllReadyH.nil
        exact AllReadyH.nil
       exact AllReadyH.nil
      exact AllReadyH.nil
     refine AllReadyH.cons (o := { dst := some 21, op := Op.load 54 (Operand.tmp 20), type := 54, pos := "law.go:194", after := #[{ on := 1, ground := Ground.data }], guard := none }) rfl (fun K hK => ?_) ?_
     ·
      have xc : Vz4.cell? ⟨q, 0, none⟩ = some (.slice A N c) := (hcur.cell (p := ⟨q, 0, none⟩) hql).trans x0
      go_simp
      refine hK.out _ _ trivial (fun _ => ?_)
      clear hK K xc
      try simp only [Act.put, List.setIfInBounds_toArray, List.set_cons_zero, List.set_cons_succ]
      refine wpAnyH_ready (rs := [0, 6]) (by kernel_rfl) (by simp) ?_
      refine AllReadyH.cons (o := { dst := some 19, op := Op.buildSlice 54 0 #[], type := 54, pos := "law.go:194", after := #[], guard := none }) rfl (fun K hK => ?_) ?_
      ·
       go_simp
       have hb0 : Blk 68 (Vz4.alloc (.cells #[] 68)) Vz4.heap.size [] := Blk.new Vz4 68 []
       have hge0 : wc.heap.size ≤ Vz4.heap.size := hcur.size
       have hlo : h4 < Vz4.heap.size := hb4.lt
       replace hb4 := hb4.alloc (.cells #[] 68)
       replace hcur := hcur.alloc hcur.size (.cells #[] 68)
       refine hK.out _ _ trivial (fun _ => ?_)
       clear hK K
       generalize Vz4.heap.size = h0 at *
       generalize Vz4.alloc (.cells #[] 68) = Vz4z0 at *
       try simp only [Act.put, List.setIfInBounds_toArray, List.set_cons_zero, List.set_cons_succ]
       have hne : h0 ≠ h4 := Nat.ne_of_gt hlo
       refine wpAnyH_ready (rs := [3, 6]) (by kernel_rfl) (by simp) ?_
       refine AllReadyH.cons (o := { dst := some 22, op := Op.call { callee := Callee.builtin Builtin.append, args := #[Operand.tmp 19, Operand.tmp 21], argTypes := #[54, 54] }, type := 54, pos := "law.go:194", after := #[{ on := 0, ground := Ground.data }, { on := 2, ground := Ground.data }], guard := none }) rfl (fun K hK => ?_) ?_
       ·
        have hl4 : h4 < Vz4z0.heap.size := hb4.lt
        have hl0 : h0 < Vz4z0.heap.size := hb0.lt
        refine step_app rfl (.tmp 19) (.tmp 21) 54 rfl 68 i0 _ Try.underlying54 hi0 hz0 hz1 hz2 rfl h0 rfl hb0 A N c (jc l1) rfl HNC.out HL1.out (HJ.out.keep hcur) HON.out (Nat.le_trans hN66 (by omega)) (fun g3 k3 W3 hor3 hle3 hmx3 ow3 hgr => ?_)
        have hge : wc.heap.size ≤ Vz4z0.heap.size := hcur.size
        have hwg3 : wc.heap.size ≤ g3 := by rcases hor3 with e | e <;> omega
        replace hb4 := hb4.grown hgr (by simp only [ne_eq, Option.some.injEq]; omega)
        have hne3 : g3 ≠ h4 := by rcases hor3 with e | e <;> omega
        replace hcur : Below wc.heap.size wc W3 := hcur.grown hgr hge (fun k hk => by injection hk with hk; omega)
        clear hgr hge
        refine hK.out _ _ trivial (fun _ => ?_)
        clear hK K hor3
        try simp only [Act.put, List.setIfInBounds_toArray, List.set_cons_zero, List.set_cons_succ]
        refine wpAnyH_ready (rs := [6]) (by kernel_rfl) (by simp) ?_
        refine AllReadyH.cons (o := { dst := some 25, op := Op.load 55 (Operand.tmp 24), type := 55, pos := "law.go:194", after := #[{ on := 5, ground := Ground.data }], guard := none }) rfl (fun K hK => ?_) ?_
        ·
         have xc : W3.cell? ⟨q, 1, none⟩ = some (.slice A' M c') := (hcur.cell (p := ⟨q, 1, none⟩) hql).trans x1
         go_simp
         refine hK.out _ _ trivial (fun _ => ?_)
         clear hK K xc
         try simp only [Act.put, List.setIfInBounds_toArray, List.set_cons_zero, List.set_cons_succ]
         refine wpAnyH_take (i := 8) (oi := { dst := some 27, op := Op.fieldAddr 57 (Operand.tmp 1) 0, type := 0, pos := "law.go:194", after := #[{ on := 0, ground := Ground.phase }, { on := 1, ground := Ground.phase }, { on := 2, ground := Ground.phase }, { on := 3, ground := Ground.phase }, { on := 4, ground := Ground.textOnly Departure.lateStores }, { on := 5, ground := Ground.phase }, { on := 6, ground := Ground.phase }, { on := 7, ground := Ground.textOnly Departure.lateStoresUnsure }], guard := none }) (v := ?vq57) rfl (by kernel_rfl) (by kernel_rfl) (by kernel_rfl) (fun _ _ _ h => h) (Or.inl ⟨by rfl, ?yq57⟩) trivial ?rq57
         case yq57 => (intro w hSw; go_simp; (try with_reducible rfl))
         try simp only [Act.put, List.setIfInBounds_toArray, List.set_cons_zero, List.set_cons_succ]
         refine wpAnyH_ready (rs := [7]) (by kernel_rfl) (by simp) ?_
         refine AllReadyH.cons (o := { dst := some 26, op := Op.call { callee := Callee.builtin Builtin.append, args := #[Operand.tmp 23, Operand.tmp 25], argTypes := #[55, 55] }, type := 55, pos := "law.go:194", after := #[{ on := 4, ground := Ground.data }, { on := 6, ground := Ground.data }, { on := 3, ground := Ground.chain }], guard := none }) rfl (fun K hK => ?_) ?_
         ·
          refine step_app rfl (.tmp 23) (.tmp 25) 55 rfl 66 i1 _ Try.underlying55 hj0 hj1 hj2 hj3 rfl h4 rfl hb4 A' M c' (jc l2) rfl HMC.out HL2.out (HQ.out.keep hcur) HON2.out (Nat.le_trans hM66 (by omega)) (fun g7 k7 W7 hor7 hle7 hmx7 ow7 hgr => ?_)
          have hge : wc.heap.size ≤ W3.heap.size := hcur.size
          have hwg7 : wc.heap.size ≤ g7 := by rcases hor7 with e | e <;> omega
          replace ow3 := ow3.grown hgr (by simp only [ne_eq, Option.some.injEq]; omega)
          replace hcur : Below wc.heap.size wc W7 := hcur.grown hgr hge (fun k hk => by injection hk with hk; omega)
          clear hgr hge
          refine hK.out _ _ trivial (fun _ => ?_)
          clear hK K hor7
          try simp only [Act.put, List.setIfInBounds_toArray, List.set_cons_zero, List.set_cons_succ]
          have HREL := Lib.hid (shop_rel HS.out hcur ow3 ow7 hqq hql hq1l hwg3 hwg7)
          have z0 : W7.cell? ⟨q, 0, none⟩ = some (.slice A N c) := (hcur.cell (p := ⟨q, 0, none⟩) hql).trans x0
          have z1 : (W7.setCell ⟨q, 0, none⟩ (.slice (some ⟨g3, 0, none⟩) N k3)).cell? ⟨q, 1, none⟩ = some (.slice A' M c') := HREL.out.2.1
          have f0 : W7.frozen? ⟨q, 0, none⟩ = false := HREL.out.2.2.1
          have f1 : (W7.setCell ⟨q, 0, none⟩ (.slice (some ⟨g3, 0, none⟩) N k3)).frozen? ⟨q, 1, none⟩ = false := HREL.out.2.2.2
          refine wpAnyH_ready (rs := [9]) (by kernel_rfl) (by simp) ?_
          refine AllReadyH.cons (i := 9) rfl (fun K hK => ?_) AllReadyH.nil
          go_simp
          refine hK.out _ _ trivial (fun _ => ?_)
          clear hK K
          try simp only [Act.put, List.setIfInBounds_toArray, List.set_cons_zero, List.set_cons_succ]
          refine wpAnyH_take (i := 10) (oi := { dst := some 28, op := Op.fieldAddr 57 (Operand.tmp 1) 1, type := 0, pos := "law.go:194", after := #[{ on := 0, ground := Ground.phase }, { on := 1, ground := Ground.phase }, { on := 2, ground := Ground.phase }, { on := 3, ground := Ground.phase }, { on := 4, ground := Ground.phase }, { on := 5, ground := Ground.phase }, { on := 6, ground := Ground.phase }, { on := 7, ground := Ground.phase }, { on := 8, ground := Ground.phase }, { on := 9, ground := Ground.phase }], guard := none }) (v := ?vq58) rfl (by kernel_rfl) (by kernel_rfl) (by kernel_rfl) (fun _ _ _ h => h) (Or.inl ⟨by rfl, ?yq58⟩) trivial ?rq58
          case yq58 => (intro w hSw; go_simp; (try with_reducible rfl))
          try simp only [Act.put, List.setIfInBounds_toArray, List.set_cons_zero, List.set_cons_succ]
          refine wpAnyH_ready (rs := [11]) (by kernel_rfl) (by simp) ?_
          refine AllReadyH.cons (i := 11) rfl (fun K hK => ?_) AllReadyH.nil
          go_simp
          refine hK.out _ _ trivial (fun _ => ?_)
          clear hK K
          refine wpAnyH_done (by kernel_rfl) ?_ _
          go_wp2_with (fail)
          go_meet
          case rel => exact ⟨_, _, _, _, HREL.out.1⟩
         exact AllReadyH.nil
        exact AllReadyH.nil
       refine AllReadyH.cons (o := { dst := some 25, op := Op.load 55 (Operand.tmp 24), type := 55, pos := "law.go:194", after := #[{ on := 5, ground := Ground.data }], guard := none }) rfl (fun K hK => ?_) ?_
       ·
        have xc : Vz4z0.cell? ⟨q, 1, none⟩ = some (.slice A' M c') := (hcur.cell (p := ⟨q, 1, none⟩) hql).trans x1
        go_simp
        refine hK.out _ _ trivial (fun _ => ?_)
        clear hK K xc
        try simp only [Act.put, List.setIfInBounds_toArray, List.set_cons_zero, List.set_cons_succ]
        refine wpAnyH_ready (rs := [3]) (by kernel_rfl) (by simp) ?_
        refine AllReadyH.cons (o := { dst := some 22, op := Op.call { callee := Callee.builtin Builtin.append, args := #[Operand.tmp 19, Operand.tmp 21], argTypes := #[54, 54] }, type := 54, pos := "law.go:194", after := #[{ on := 0, ground := Ground.data }, { on := 2, ground := Ground.data }], guard := none }) rfl (fun K hK => ?_) ?_
        ·
         have hl4 : h4 < Vz4z0.heap.size := hb4.lt
         have hl0 : h0 < Vz4z0.heap.size := hb0.lt
         refine step_app rfl (.tmp 19) (.tmp 21) 54 rfl 68 i0 _ Try.underlying54 hi0 hz0 hz1 hz2 rfl h0 rfl hb0 A N c (jc l1) rfl HNC.out HL1.out (HJ.out.keep hcur) HON.out (Nat.le_trans hN66 (by omega)) (fun g3 k3 W3 hor3 hle3 hmx3 ow3 hgr => ?_)
         have hge : wc.heap.size ≤ Vz4z0.heap.size := hcur.size
         have hwg3 : wc.heap.size ≤ g3 := by rcases hor3 with e | e <;> omega
         replace hb4 := hb4.grown hgr (by simp only [ne_eq, Option.some.injEq]; omega)
         have hne3 : g3 ≠ h4 := by rcases hor3 with e | e <;> omega
         replace hcur : Below wc.heap.size wc W3 := hcur.grown hgr hge (fun k hk => by injection hk with hk; omega)
         clear hgr hge
         refine hK.out _ _ trivial (fun _ => ?_)
         clear hK K hor3
         try simp only [Act.put, List.setIfInBounds_toArray, List.set_cons_zero, List.set_cons_succ]
         refine wpAnyH_take (i := 8) (oi := { dst := some 27, op := Op.fieldAddr 57 (Operand.tmp 1) 0, type := 0, pos := "law.go:194", after := #[{ on := 0, ground := Ground.phase }, { on := 1, ground := Ground.phase }, { on := 2, ground := Ground.phase }, { on := 3, ground := Ground.phase }, { on := 4, ground := Ground.textOnly Departure.lateStores }, { on := 5, ground := Ground.phase }, { on := 6, ground := Ground.phase }, { on := 7, ground := Ground.textOnly Departure.lateStoresUnsure }], guard := none }) (v := ?vq59) rfl (by kernel_rfl) (by kernel_rfl) (by kernel_rfl) (fun _ _ _ h => h) (Or.inl ⟨by rfl, ?yq59⟩) trivial ?rq59
         case yq59 => (intro w hSw; go_simp; (try with_reducible rfl))
         try simp only [Act.put, List.setIfInBounds_toArray, List.set_cons_zero, List.set_cons_succ]
         refine wpAnyH_ready (rs := [7]) (by kernel_rfl) (by simp) ?_
         refine AllReadyH.cons (o := { dst := some 26, op := Op.call { callee := Callee.builtin Builtin.append, args := #[Operand.tmp 23, Operand.tmp 25], argTypes := #[55, 55] }, type := 55, pos := "law.go:194", after := #[{ on := 4, ground := Ground.data }, { on := 6, ground := Ground.data }, { on := 3, ground := Ground.chain }], guard := none }) rfl (fun K hK => ?_) ?_
         ·
          refine step_app rfl (.tmp 23) (.tmp 25) 55 rfl 66 i1 _ Try.underlying55 hj0 hj1 hj2 hj3 rfl h4 rfl hb4 A' M c' (jc l2) rfl HMC.out HL2.out (HQ.out.keep hcur) HON2.out (Nat.le_trans hM66 (by omega)) (fun g7 k7 W7 hor7 hle7 hmx7 ow7 hgr => ?_)
          have hge : wc.heap.size ≤ W3.heap.size := hcur.size
          have hwg7 : wc.heap.size ≤ g7 := by rcases hor7 with e | e <;> omega
          replace ow3 := ow3.grown hgr (by simp only [ne_eq, Option.some.injEq]; omega)
          replace hcur : Below wc.heap.size wc W7 := hcur.grown hgr hge (fun k hk => by injection hk with hk; omega)
          clear hgr hge
          refine hK.out _ _ trivial (fun _ => ?_)
          clear hK K hor7
          try simp only [Act.put, List.setIfInBounds_toArray, List.set_cons_zero, List.set_cons_succ]
          have HREL := Lib.hid (shop_rel HS.out hcur ow3 ow7 hqq hql hq1l hwg3 hwg7)
          have z0 : W7.cell? ⟨q, 0, none⟩ = some (.slice A N c) := (hcur.cell (p := ⟨q, 0, none⟩) hql).trans x0
          have z1 : (W7.setCell ⟨q, 0, none⟩ (.slice (some ⟨g3, 0, none⟩) N k3)).cell? ⟨q, 1, none⟩ = some (.slice A' M c') := HREL.out.2.1
          have f0 : W7.frozen? ⟨q, 0, none⟩ = false := HREL.out.2.2.1
          have f1 : (W7.setCell ⟨q, 0, none⟩ (.slice (some ⟨g3, 0, none⟩) N k3)).frozen? ⟨q, 1, none⟩ = false := HREL.out.2.2.2
          refine wpAnyH_ready (rs := [9]) (by kernel_rfl) (by simp) ?_
          refine AllReadyH.cons (i := 9) rfl (fun K hK => ?_) AllReadyH.nil
          go_simp
          refine hK.out _ _ trivial (fun _ => ?_)
          clear hK K
          try simp only [Act.put, List.setIfInBounds_toArray, List.set_cons_zero, List.set_cons_succ]
          refine wpAnyH_take (i := 10) (oi := { dst := some 28, op := Op.fieldAddr 57 (Operand.tmp 1) 1, type := 0, pos := "law.go:194", after := #[{ on := 0, ground := Ground.phase }, { on := 1, ground := Ground.phase }, { on := 2, ground := Ground.phase }, { on := 3, ground := Ground.phase }, { on := 4, ground := Ground.phase }, { on := 5, ground := Ground.phase }, { on := 6, ground := Ground.phase }, { on := 7, ground := Ground.phase }, { on := 8, ground := Ground.phase }, { on := 9, ground := Ground.phase }], guard := none }) (v := ?vq60) rfl (by kernel_rfl) (by kernel_rfl) (by kernel_rfl) (fun _ _ _ h => h) (Or.inl ⟨by rfl, ?yq60⟩) trivial ?rq60
          case yq60 => (intro w hSw; go_simp; (try with_reducible rfl))
          try simp only [Act.put, List.setIfInBounds_toArray, List.set_cons_zero, List.set_cons_succ]
          refine wpAnyH_ready (rs := [11]) (by kernel_rfl) (by simp) ?_
          refine AllReadyH.cons (i := 11) rfl (fun K hK => ?_) AllReadyH.nil
          go_simp
          refine hK.out _ _ trivial (fun _ => ?_)
          clear hK K
          refine wpAnyH_done (by kernel_rfl) ?_ _
          go_wp2_with (fail)
          go_meet
          case rel => exact ⟨_, _, _, _, HREL.out.1⟩
         exact AllReadyH.nil
        exact AllReadyH.nil
       exact AllReadyH.nil
      refine AllReadyH.cons (o := { dst := some 25, op := Op.load 55 (Operand.tmp 24), type := 55, pos := "law.go:194", after := #[{ on := 5, ground := Ground.data }], guard := none }) rfl (fun K hK => ?_) ?_
      ·
       have xc : Vz4.cell? ⟨q, 1, none⟩ = some (.slice A' M c') := (hcur.cell (p := ⟨q, 1, none⟩) hql).trans x1
       go_simp
       refine hK.out _ _ trivial (fun _ => ?_)
       clear hK K xc
       try simp only [Act.put, List.setIfInBounds_toArray, List.set_cons_zero, List.set_cons_succ]
       refine wpAnyH_ready (rs := [0]) (by kernel_rfl) (by simp) ?_
       refine AllReadyH.cons (o := { dst := some 19, op := Op.buildSlice 54 0 #[], type := 54, pos := "law.go:194", after := #[], guard := none }) rfl (fun K hK => ?_) ?_
       ·
        go_simp
        have hb0 : Blk 68 (Vz4.alloc (.cells #[] 68)) Vz4.heap.size [] := Blk.new Vz4 68 []
        have hge0 : wc.heap.size ≤ Vz4.heap.size := hcur.size
        have hlo : h4 < Vz4.heap.size := hb4.lt
        replace hb4 := hb4.alloc (.cells #[] 68)
        replace hcur := hcur.alloc hcur.size (.cells #[] 68)
        refine hK.out _ _ trivial (fun _ => ?_)
        clear hK K
        generalize Vz4.heap.size = h0 at *
        generalize Vz4.alloc (.cells #[] 68) = Vz4z0 at *
        try simp only [Act.put, List.setIfInBounds_toArray, List.set_cons_zero, List.set_cons_succ]
        have hne : h0 ≠ h4 := Nat.ne_of_gt hlo
        refine wpAnyH_ready (rs := [3]) (by kernel_rfl) (by simp) ?_
        refine AllReadyH.cons (o := { dst := some 22, op := Op.call { callee := Callee.builtin Builtin.append, args := #[Operand.tmp 19, Operand.tmp 21], argTypes := #[54, 54] }, type := 54, pos := "law.go:194", after := #[{ on := 0, ground := Ground.data }, { on := 2, ground := Ground.data }], guard := none }) rfl (fun K hK => ?_) ?_
        ·
         have hl4 : h4 < Vz4z0.heap.size := hb4.lt
         have hl0 : h0 < Vz4z0.heap.size := hb0.lt
         refine step_app rfl (.tmp 19) (.tmp 21) 54 rfl 68 i0 _ Try.underlying54 hi0 hz0 hz1 hz2 rfl h0 rfl hb0 A N c (jc l1) rfl HNC.out HL1.out (HJ.out.keep hcur) HON.out (Nat.le_trans hN66 (by omega)) (fun g3 k3 W3 hor3 hle3 hmx3 ow3 hgr => ?_)
         have hge : wc.heap.size ≤ Vz4z0.heap.size := hcur.size
         have hwg3 : wc.heap.size ≤ g3 := by rcases hor3 with e | e <;> omega
         replace hb4 := hb4.grown hgr (by simp only [ne_eq, Option.some.injEq]; omega)
         have hne3 : g3 ≠ h4 := by rcases hor3 with e | e <;> omega
         replace hcur : Below wc.heap.size wc W3 := hcur.grown hgr hge (fun k hk => by injection hk with hk; omega)
         clear hgr hge
         refine hK.out _ _ trivial (fun _ => ?_)
         clear hK K hor3
         try simp only [Act.put, List.setIfInBounds_toArray, List.set_cons_zero, List.set_cons_succ]
         refine wpAnyH_take (i := 8) (oi := { dst := some 27, op := Op.fieldAddr 57 (Operand.tmp 1) 0, type := 0, pos := "law.go:194", after := #[{ on := 0, ground := Ground.phase }, { on := 1, ground := Ground.phase }, { on := 2, ground := Ground.phase }, { on := 3, ground := Ground.phase }, { on := 4, ground := Ground.textOnly Departure.lateStores }, { on := 5, ground := Ground.phase }, { on := 6, ground := Ground.phase }, { on := 7, ground := Ground.textOnly Departure.lateStoresUnsure }], guard := none }) (v := ?vq61) rfl (by kernel_rfl) (by kernel_rfl) (by kernel_rfl) (fun _ _ _ h => h) (Or.inl ⟨by rfl, ?yq61⟩) trivial ?rq61
         case yq61 => (intro w hSw; go_simp; (try with_reducible rfl))
         try simp only [Act.put, List.setIfInBounds_toArray, List.set_cons_zero, List.set_cons_succ]
         refine wpAnyH_ready (rs := [7]) (by kernel_rfl) (by simp) ?_
         refine AllReadyH.cons (o := { dst := some 26, op := Op.call { callee := Callee.builtin Builtin.append, args := #[Operand.tmp 23, Operand.tmp 25], argTypes := #[55, 55] }, type := 55, pos := "law.go:194", after := #[{ on := 4, ground := Ground.data }, { on := 6, ground := Ground.data }, { on := 3, ground := Ground.chain }], guard := none }) rfl (fun K hK => ?_) ?_
         ·
          refine step_app rfl (.tmp 23) (.tmp 25) 55 rfl 66 i1 _ Try.underlying55 hj0 hj1 hj2 hj3 rfl h4 rfl hb4 A' M c' (jc l2) rfl HMC.out HL2.out (HQ.out.keep hcur) HON2.out (Nat.le_trans hM66 (by omega)) (fun g7 k7 W7 hor7 hle7 hmx7 ow7 hgr => ?_)
          have hge : wc.heap.size ≤ W3.heap.size := hcur.size
          have hwg7 : wc.heap.size ≤ g7 := by rcases hor7 with e | e <;> omega
          replace ow3 := ow3.grown hgr (by simp only [ne_eq, Option.some.injEq]; omega)
          replace hcur : Below wc.heap.size wc W7 := hcur.grown hgr hge (fun k hk => by injection hk with hk; omega)
          clear hgr hge
          refine hK.out _ _ trivial (fun _ => ?_)
          clear hK K hor7
          try simp only [Act.put, List.setIfInBounds_toArray, List.set_cons_zero, List.set_cons_succ]
          have HREL := Lib.hid (shop_rel HS.out hcur ow3 ow7 hqq hql hq1l hwg3 hwg7)
          have z0 : W7.cell? ⟨q, 0, none⟩ = some (.slice A N c) := (hcur.cell (p := ⟨q, 0, none⟩) hql).trans x0
          have z1 : (W7.setCell ⟨q, 0, none⟩ (.slice (some ⟨g3, 0, none⟩) N k3)).cell? ⟨q, 1, none⟩ = some (.slice A' M c') := HREL.out.2.1
          have f0 : W7.frozen? ⟨q, 0, none⟩ = false := HREL.out.2.2.1
          have f1 : (W7.setCell ⟨q, 0, none⟩ (.slice (some ⟨g3, 0, none⟩) N k3)).frozen? ⟨q, 1, none⟩ = false := HREL.out.2.2.2
          refine wpAnyH_ready (rs := [9]) (by kernel_rfl) (by simp) ?_
          refine AllReadyH.cons (i := 9) rfl (fun K hK => ?_) AllReadyH.nil
          go_simp
          refine hK.out _ _ trivial (fun _ => ?_)
          clear hK K
          try simp only [Act.put, List.setIfInBounds_toArray, List.set_cons_zero, List.set_cons_succ]
          refine wpAnyH_take (i := 10) (oi := { dst := some 28, op := Op.fieldAddr 57 (Operand.tmp 1) 1, type := 0, pos := "law.go:194", after := #[{ on := 0, ground := Ground.phase }, { on := 1, ground := Ground.phase }, { on := 2, ground := Ground.phase }, { on := 3, ground := Ground.phase }, { on := 4, ground := Ground.phase }, { on := 5, ground := Ground.phase }, { on := 6, ground := Ground.phase }, { on := 7, ground := Ground.phase }, { on := 8, ground := Ground.phase }, { on := 9, ground := Ground.phase }], guard := none }) (v := ?vq62) rfl (by kernel_rfl) (by kernel_rfl) (by kernel_rfl) (fun _ _ _ h => h) (Or.inl ⟨by rfl, ?yq62⟩) trivial ?rq62
          case yq62 => (intro w hSw; go_simp; (try with_reducible rfl))
          try simp only [Act.put, List.setIfInBounds_toArray, List.set_cons_zero, List.set_cons_succ]
          refine wpAnyH_ready (rs := [11]) (by kernel_rfl) (by simp) ?_
          refine AllReadyH.cons (i := 11) rfl (fun K hK => ?_) AllReadyH.nil
          go_simp
          refine hK.out _ _ trivial (fun _ => ?_)
          clear hK K
          refine wpAnyH_done (by kernel_rfl) ?_ _
          go_wp2_with (fail)
          go_meet
          case rel => exact ⟨_, _, _, _, HREL.out.1⟩
         exact AllReadyH.nil
        exact AllReadyH.nil
       exact AllReadyH.nil
      exact AllReadyH.nil
     refine AllReadyH.cons (o := { dst := some 25, op := Op.load 55 (Operand.tmp 24), type := 55, pos := "law.go:194", after := #[{ on := 5, ground := Ground.data }], guard := none }) rfl (fun K hK => ?_) ?_
     ·
      have xc : Vz4.cell? ⟨q, 1, none⟩ = some (.slice A' M c') := (hcur.cell (p := ⟨q, 1, none⟩) hql).trans x1
      go_simp
      refine hK.out _ _ trivial (fun _ => ?_)
      clear hK K xc
      try simp only [Act.put, List.setIfInBounds_toArray, List.set_cons_zero, List.set_cons_succ]
      refine wpAnyH_ready (rs := [0, 2]) (by kernel_rfl) (by simp) ?_
      refine AllReadyH.cons (o := { dst := some 19, op := Op.buildSlice 54 0 #[], type := 54, pos := "law.go:194", after := #[], guard := none }) rfl (fun K hK => ?_) ?_
      ·
       go_simp
       have hb0 : Blk 68 (Vz4.alloc (.cells #[] 68)) Vz4.heap.size [] := Blk.new Vz4 68 []
       have hge0 : wc.heap.size ≤ Vz4.heap.size := hcur.size
       have hlo : h4 < Vz4.heap.size := hb4.lt
       replace hb4 := hb4.alloc (.cells #[] 68)
       replace hcur := hcur.alloc hcur.size (.cells #[] 68)
       refine hK.out _ _ trivial (fun _ => ?_)
       clear hK K
       generalize Vz4.heap.size = h0 at *
       generalize Vz4.alloc (.cells #[] 68) = Vz4z0 at *
       try simp only [Act.put, List.setIfInBounds_toArray, List.set_cons_zero, List.set_cons_succ]
       have hne : h0 ≠ h4 := Nat.ne_of_gt hlo
       refine wpAnyH_ready (rs := [2]) (by kernel_rfl) (by simp) ?_
       refine AllReadyH.cons (o := { dst := some 21, op := Op.load 54 (Operand.tmp 20), type := 54, pos := "law.go:194", after := #[{ on := 1, ground := Ground.data }], guard := none }) rfl (fun K hK => ?_) ?_
       ·
        have xc : Vz4z0.cell? ⟨q, 0, none⟩ = some (.slice A N c) := (hcur.cell (p := ⟨q, 0, none⟩) hql).trans x0
        go_simp
        refine hK.out _ _ trivial (fun _ => ?_)
        clear hK K xc
        try simp only [Act.put, List.setIfInBounds_toArray, List.set_cons_zero, List.set_cons_succ]
        refine wpAnyH_ready (rs := [3]) (by kernel_rfl) (by simp) ?_
        refine AllReadyH.cons (o := { dst := some 22, op := Op.call { callee := Callee.builtin Builtin.append, args := #[Operand.tmp 19, Operand.tmp 21], argTypes := #[54, 54] }, type := 54, pos := "law.go:194", after := #[{ on := 0, ground := Ground.data }, { on := 2, ground := Ground.data }], guard := none }) rfl (fun K hK => ?_) ?_
        ·
         have hl4 : h4 < Vz4z0.heap.size := hb4.lt
         have hl0 : h0 < Vz4z0.heap.size := hb0.lt
         refine step_app rfl (.tmp 19) (.tmp 21) 54 rfl 68 i0 _ Try.underlying54 hi0 hz0 hz1 hz2 rfl h0 rfl hb0 A N c (jc l1) rfl HNC.out HL1.out (HJ.out.keep hcur) HON.out (Nat.le_trans hN66 (by omega)) (fun g3 k3 W3 hor3 hle3 hmx3 ow3 hgr => ?_)
         have hge : wc.heap.size ≤ Vz4z0.heap.size := hcur.size
         have hwg3 : wc.heap.size ≤ g3 := by rcases hor3 with e | e <;> omega
         replace hb4 := hb4.grown hgr (by simp only [ne_eq, Option.some.injEq]; omega)
         have hne3 : g3 ≠ h4 := by rcases hor3 with e | e <;> omega
         replace hcur : Below wc.heap.size wc W3 := hcur.grown hgr hge (fun k hk => by injection hk with hk; omega)
         clear hgr hge
         refine hK.out _ _ trivial (fun _ => ?_)
         clear hK K hor3
         try simp only [Act.put, List.setIfInBounds_toArray, List.set_cons_zero, List.set_cons_succ]
         refine wpAnyH_take (i := 8) (oi := { dst := some 27, op := Op.fieldAddr 57 (Operand.tmp 1) 0, type := 0, pos := "law.go:194", after := #[{ on := 0, ground := Ground.phase }, { on := 1, ground := Ground.phase }, { on := 2, ground := Ground.phase }, { on := 3, ground := Ground.phase }, { on := 4, ground := Ground.textOnly Departure.lateStores }, { on := 5, ground := Ground.phase }, { on := 6, ground := Ground.phase }, { on := 7, ground := Ground.textOnly Departure.lateStoresUnsure }], guard := none }) (v := ?vq63) rfl (by kernel_rfl) (by kernel_rfl) (by kernel_rfl) (fun _ _ _ h => h) (Or.inl ⟨by rfl, ?yq63⟩) trivial ?rq63
         case yq63 => (intro w hSw; go_simp; (try with_reducible rfl))
         try simp only [Act.put, List.setIfInBounds_toArray, List.set_cons_zero, List.set_cons_succ]
         refine wpAnyH_ready (rs := [7]) (by kernel_rfl) (by simp) ?_
         refine AllReadyH.cons (o := { dst := some 26, op := Op.call { callee := Callee.builtin Builtin.append, args := #[Operand.tmp 23, Operand.tmp 25], argTypes := #[55, 55] }, type := 55, pos := "law.go:194", after := #[{ on := 4, ground := Ground.data }, { on := 6, ground := Ground.data }, { on := 3, ground := Ground.chain }], guard := none }) rfl (fun K hK => ?_) ?_
         ·
          refine step_app rfl (.tmp 23) (.tmp 25) 55 rfl 66 i1 _ Try.underlying55 hj0 hj1 hj2 hj3 rfl h4 rfl hb4 A' M c' (jc l2) rfl HMC.out HL2.out (HQ.out.keep hcur) HON2.out (Nat.le_trans hM66 (by omega)) (fun g7 k7 W7 hor7 hle7 hmx7 ow7 hgr => ?_)
          have hge : wc.heap.size ≤ W3.heap.size := hcur.size
          have hwg7 : wc.heap.size ≤ g7 := by rcases hor7 with e | e <;> omega
          replace ow3 := ow3.grown hgr (by simp only [ne_eq, Option.some.injEq]; omega)
          replace hcur : Below wc.heap.size wc W7 := hcur.grown hgr hge (fun k hk => by injection hk with hk; omega)
          clear hgr hge
          refine hK.out _ _ trivial (fun _ => ?_)
          clear hK K hor7
          try simp only [Act.put, List.setIfInBounds_toArray, List.set_cons_zero, List.set_cons_succ]
          have HREL := Lib.hid (shop_rel HS.out hcur ow3 ow7 hqq hql hq1l hwg3 hwg7)
          have z0 : W7.cell? ⟨q, 0, none⟩ = some (.slice A N c) := (hcur.cell (p := ⟨q, 0, none⟩) hql).trans x0
          have z1 : (W7.setCell ⟨q, 0, none⟩ (.slice (some ⟨g3, 0, none⟩) N k3)).cell? ⟨q, 1, none⟩ = some (.slice A' M c') := HREL.out.2.1
          have f0 : W7.frozen? ⟨q, 0, none⟩ = false := HREL.out.2.2.1
          have f1 : (W7.setCell ⟨q, 0, none⟩ (.slice (some ⟨g3, 0, none⟩) N k3)).frozen? ⟨q, 1, none⟩ = false := HREL.out.2.2.2
          refine wpAnyH_ready (rs := [9]) (by kernel_rfl) (by simp) ?_
          refine AllReadyH.cons (i := 9) rfl (fun K hK => ?_) AllReadyH.nil
          go_simp
          refine hK.out _ _ trivial (fun _ => ?_)
          clear hK K
          try simp only [Act.put, List.setIfInBounds_toArray, List.set_cons_zero, List.set_cons_succ]
          refine wpAnyH_take (i := 10) (oi := { dst := some 28, op := Op.fieldAddr 57 (Operand.tmp 1) 1, type := 0, pos := "law.go:194", after := #[{ on := 0, ground := Ground.phase }, { on := 1, ground := Ground.phase }, { on := 2, ground := Ground.phase }, { on := 3, ground := Ground.phase }, { on := 4, ground := Ground.phase }, { on := 5, ground := Ground.phase }, { on := 6, ground := Ground.phase }, { on := 7, ground := Ground.phase }, { on := 8, ground := Ground.phase }, { on := 9, ground := Ground.phase }], guard := none }) (v := ?vq64) rfl (by kernel_rfl) (by kernel_rfl) (by kernel_rfl) (fun _ _ _ h => h) (Or.inl ⟨by rfl, ?yq64⟩) trivial ?rq64
          case yq64 => (intro w hSw; go_simp; (try with_reducible rfl))
          try simp only [Act.put, List.setIfInBounds_toArray, List.set_cons_zero, List.set_cons_succ]
          refine wpAnyH_ready (rs := [11]) (by kernel_rfl) (by simp) ?_
          refine AllReadyH.cons (i := 11) rfl (fun K hK => ?_) AllReadyH.nil
          go_simp
          refine hK.out _ _ trivial (fun _ => ?_)
          clear hK K
          refine wpAnyH_done (by kernel_rfl) ?_ _
          go_wp2_with (fail)
          go_meet
          case rel => exact ⟨_, _, _, _, HREL.out.1⟩
         exact AllReadyH.nil
        exact AllReadyH.nil
       exact AllReadyH.nil
      refine AllReadyH.cons (o := { dst := some 21, op := Op.load 54 (Operand.tmp 20), type := 54, pos := "law.go:194", after := #[{ on := 1, ground := Ground.data }], guard := none }) rfl (fun K hK => ?_) ?_
      ·
       have xc : Vz4.cell? ⟨q, 0, none⟩ = some (.slice A N c) := (hcur.cell (p := ⟨q, 0, none⟩) hql).trans x0
       go_simp
       refine hK.out _ _ trivial (fun _ => ?_)
       clear hK K xc
       try simp only [Act.put, List.setIfInBounds_toArray, List.set_cons_zero, List.set_cons_succ]
       refine wpAnyH_ready (rs := [0]) (by kernel_rfl) (by simp) ?_
       refine AllReadyH.cons (o := { dst := some 19, op := Op.buildSlice 54 0 #[], type := 54, pos := "law.go:194", after := #[], guard := none }) rfl (fun K hK => ?_) ?_
       ·
        go_simp
        have hb0 : Blk 68 (Vz4.alloc (.cells #[] 68)) Vz4.heap.size [] := Blk.new Vz4 68 []
        have hge0 : wc.heap.size ≤ Vz4.heap.size := hcur.size
        have hlo : h4 < Vz4.heap.size := hb4.lt
        replace hb4 := hb4.alloc (.cells #[] 68)
        replace hcur := hcur.alloc hcur.size (.cells #[] 68)
        refine hK.out _ _ trivial (fun _ => ?_)
        clear hK K
        generalize Vz4.heap.size = h0 at *
        generalize Vz4.alloc (.cells #[] 68) = Vz4z0 at *
        try simp only [Act.put, List.setIfInBounds_toArray, List.set_cons_zero, List.set_cons_succ]
        have hne : h0 ≠ h4 := Nat.ne_of_gt hlo
        refine wpAnyH_ready (rs := [3]) (by kernel_rfl) (by simp) ?_
        refine AllReadyH.cons (o := { dst := some 22, op := Op.call { callee := Callee.builtin Builtin.append, args := #[Operand.tmp 19, Operand.tmp 21], argTypes := #[54, 54] }, type := 54, pos := "law.go:194", after := #[{ on := 0, ground := Ground.data }, { on := 2, ground := Ground.data }], guard := none }) rfl (fun K hK => ?_) ?_
        ·
         have hl4 : h4 < Vz4z0.heap.size := hb4.lt
         have hl0 : h0 < Vz4z0.heap.size := hb0.lt
         refine step_app rfl (.tmp 19) (.tmp 21) 54 rfl 68 i0 _ Try.underlying54 hi0 hz0 hz1 hz2 rfl h0 rfl hb0 A N c (jc l1) rfl HNC.out HL1.out (HJ.out.keep hcur) HON.out (Nat.le_trans hN66 (by omega)) (fun g3 k3 W3 hor3 hle3 hmx3 ow3 hgr => ?_)
         have hge : wc.heap.size ≤ Vz4z0.heap.size := hcur.size
         have hwg3 : wc.heap.size ≤ g3 := by rcases hor3 with e | e <;> omega
         replace hb4 := hb4.grown hgr (by simp only [ne_eq, Option.some.injEq]; omega)
         have hne3 : g3 ≠ h4 := by rcases hor3 with e | e <;> omega
         replace hcur : Below wc.heap.size wc W3 := hcur.grown hgr hge (fun k hk => by injection hk with hk; omega)
         clear hgr hge
         refine hK.out _ _ trivial (fun _ => ?_)
         clear hK K hor3
         try simp only [Act.put, List.setIfInBounds_toArray, List.set_cons_zero, List.set_cons_succ]
         refine wpAnyH_take (i := 8) (oi := { dst := some 27, op := Op.fieldAddr 57 (Operand.tmp 1) 0, type := 0, pos := "law.go:194", after := #[{ on := 0, ground := Ground.phase }, { on := 1, ground := Ground.phase }, { on := 2, ground := Ground.phase }, { on := 3, ground := Ground.phase }, { on := 4, ground := Ground.textOnly Departure.lateStores }, { on := 5, ground := Ground.phase }, { on := 6, ground := Ground.phase }, { on := 7, ground := Ground.textOnly Departure.lateStoresUnsure }], guard := none }) (v := ?vq65) rfl (by kernel_rfl) (by kernel_rfl) (by kernel_rfl) (fun _ _ _ h => h) (Or.inl ⟨by rfl, ?yq65⟩) trivial ?rq65
         case yq65 => (intro w hSw; go_simp; (try with_reducible rfl))
         try simp only [Act.put, List.setIfInBounds_toArray, List.set_cons_zero, List.set_cons_succ]
         refine wpAnyH_ready (rs := [7]) (by kernel_rfl) (by simp) ?_
         refine AllReadyH.cons (o := { dst := some 26, op := Op.call { callee := Callee.builtin Builtin.append, args := #[Operand.tmp 23, Operand.tmp 25], argTypes := #[55, 55] }, type := 55, pos := "law.go:194", after := #[{ on := 4, ground := Ground.data }, { on := 6, ground := Ground.data }, { on := 3, ground := Ground.chain }], guard := none }) rfl (fun K hK => ?_) ?_
         ·
          refine step_app rfl (.tmp 23) (.tmp 25) 55 rfl 66 i1 _ Try.underlying55 hj0 hj1 hj2 hj3 rfl h4 rfl hb4 A' M c' (jc l2) rfl HMC.out HL2.out (HQ.out.keep hcur) HON2.out (Nat.le_trans hM66 (by omega)) (fun g7 k7 W7 hor7 hle7 hmx7 ow7 hgr => ?_)
          have hge : wc.heap.size ≤ W3.heap.size := hcur.size
          have hwg7 : wc.heap.size ≤ g7 := by rcases hor7 with e | e <;> omega
          replace ow3 := ow3.grown hgr (by simp only [ne_eq, Option.some.injEq]; omega)
          replace hcur : Below wc.heap.size wc W7 := hcur.grown hgr hge (fun k hk => by injection hk with hk; omega)
          clear hgr hge
          refine hK.out _ _ trivial (fun _ => ?_)
          clear hK K hor7
          try simp only [Act.put, List.setIfInBounds_toArray, List.set_cons_zero, List.set_cons_succ]
          have HREL := Lib.hid (shop_rel HS.out hcur ow3 ow7 hqq hql hq1l hwg3 hwg7)
          have z0 : W7.cell? ⟨q, 0, none⟩ = some (.slice A N c) := (hcur.cell (p := ⟨q, 0, none⟩) hql).trans x0
          have z1 : (W7.setCell ⟨q, 0, none⟩ (.slice (some ⟨g3, 0, none⟩) N k3)).cell? ⟨q, 1, none⟩ = some (.slice A' M c') := HREL.out.2.1
          have f0 : W7.frozen? ⟨q, 0, none⟩ = false := HREL.out.2.2.1
          have f1 : (W7.setCell ⟨q, 0, none⟩ (.slice (some ⟨g3, 0, none⟩) N k3)).frozen? ⟨q, 1, none⟩ = false := HREL.out.2.2.2
          refine wpAnyH_ready (rs := [9]) (by kernel_rfl) (by simp) ?_
          refine AllReadyH.cons (i := 9) rfl (fun K hK => ?_) AllReadyH.nil
          go_simp
          refine hK.out _ _ trivial (fun _ => ?_)
          clear hK K
          try simp only [Act.put, List.setIfInBounds_toArray, List.set_cons_zero, List.set_cons_succ]
          refine wpAnyH_take (i := 10) (oi := { dst := some 28, op := Op.fieldAddr 57 (Operand.tmp 1) 1, type := 0, pos := "law.go:194", after := #[{ on := 0, ground := Ground.phase }, { on := 1, ground := Ground.phase }, { on := 2, ground := Ground.phase }, { on := 3, ground := Ground.phase }, { on := 4, ground := Ground.phase }, { on := 5, ground := Ground.phase }, { on := 6, ground := Ground.phase }, { on := 7, ground := Ground.phase }, { on := 8, ground := Ground.phase }, { on := 9, ground := Ground.phase }], guard := none }) (v := ?vq66) rfl (by kernel_rfl) (by kernel_rfl) (by kernel_rfl) (fun _ _ _ h => h) (Or.inl ⟨by rfl, ?yq66⟩) trivial ?rq66
          case yq66 => (intro w hSw; go_simp; (try with_reducible rfl))
          try simp only [Act.put, List.setIfInBounds_toArray, List.set_cons_zero, List.set_cons_succ]
          refine wpAnyH_ready (rs := [11]) (by kernel_rfl) (by simp) ?_
          refine AllReadyH.cons (i := 11) rfl (fun K hK => ?_) AllReadyH.nil
          go_simp
          refine hK.out _ _ trivial (fun _ => ?_)
          clear hK K
          refine wpAnyH_done (by kernel_rfl) ?_ _
          go_wp2_with (fail)
          go_meet
          case rel => exact ⟨_, _, _, _, HREL.out.1⟩
         exact AllReadyH.nil
        exact AllReadyH.nil
       exact AllReadyH.nil
      exact AllReadyH.nil
     exact AllReadyH.nil
    refine AllReadyH.cons (o := { dst := some 25, op := Op.load 55 (Operand.tmp 24), type := 55, pos := "law.go:194", after := #[{ on := 5, ground := Ground.data }], guard := none }) rfl (fun K hK => ?_) ?_
    ·
     have xc : V.cell? ⟨q, 1, none⟩ = some (.slice A' M c') := (hcur.cell (p := ⟨q, 1, none⟩) hql).trans x1
     go_simp
     refine hK.out _ _ trivial (fun _ => ?_)
     clear hK K xc
     try simp only [Act.put, List.setIfInBounds_toArray, List.set_cons_zero, List.set_cons_succ]
     refine wpAnyH_ready (rs := [0, 2, 4]) (by kernel_rfl) (by simp) ?_
     refine AllReadyH.cons (o := { dst := some 19, op := Op.buildSlice 54 0 #[], type := 54, pos := "law.go:194", after := #[], guard := none }) rfl (fun K hK => ?_) ?_
     ·
      go_simp
      have hb0 : Blk 68 (V.alloc (.cells #[] 68)) V.heap.size [] := Blk.new V 68 []
      have hge0 : wc.heap.size ≤ V.heap.size := hcur.size
      replace hcur := hcur.alloc hcur.size (.cells #[] 68)
      refine hK.out _ _ trivial (fun _ => ?_)
      clear hK K
      generalize V.heap.size = h0 at *
      generalize V.alloc (.cells #[] 68) = Vz0 at *
      try simp only [Act.put, List.setIfInBounds_toArray, List.set_cons_zero, List.set_cons_succ]
      refine wpAnyH_ready (rs := [2, 4]) (by kernel_rfl) (by simp) ?_
      refine AllReadyH.cons (o := { dst := some 21, op := Op.load 54 (Operand.tmp 20), type := 54, pos := "law.go:194", after := #[{ on := 1, ground := Ground.data }], guard := none }) rfl (fun K hK => ?_) ?_
      ·
       have xc : Vz0.cell? ⟨q, 0, none⟩ = some (.slice A N c) := (hcur.cell (p := ⟨q, 0, none⟩) hql).trans x0
       go_simp
       refine hK.out _ _ trivial (fun _ => ?_)
       clear hK K xc
       try simp only [Act.put, List.setIfInBounds_toArray, List.set_cons_zero, List.set_cons_succ]
       refine wpAnyH_ready (rs := [3, 4]) (by kernel_rfl) (by simp) ?_
       refine AllReadyH.cons (o := { dst := some 22, op := Op.call { callee := Callee.builtin Builtin.append, args := #[Operand.tmp 19, Operand.tmp 21], argTypes := #[54, 54] }, type := 54, pos := "law.go:194", after := #[{ on := 0, ground := Ground.data }, { on := 2, ground := Ground.data }], guard := none }) rfl (fun K hK => ?_) ?_
       ·
        have hl0 : h0 < Vz0.heap.size := hb0.lt
        refine step_app rfl (.tmp 19) (.tmp 21) 54 rfl 68 i0 _ Try.underlying54 hi0 hz0 hz1 hz2 rfl h0 rfl hb0 A N c (jc l1) rfl HNC.out HL1.out (HJ.out.keep hcur) HON.out (Nat.le_trans hN66 (by omega)) (fun g3 k3 W3 hor3 hle3 hmx3 ow3 hgr => ?_)
        have hge : wc.heap.size ≤ Vz0.heap.size := hcur.size
        have hwg3 : wc.heap.size ≤ g3 := by rcases hor3 with e | e <;> omega
        replace hcur : Below wc.heap.size wc W3 := hcur.grown hgr hge (fun k hk => by injection hk with hk; omega)
        clear hgr hge
        refine hK.out _ _ trivial (fun _ => ?_)
        clear hK K hor3
        try simp only [Act.put, List.setIfInBounds_toArray, List.set_cons_zero, List.set_cons_succ]
        refine wpAnyH_take (i := 8) (oi := { dst := some 27, op := Op.fieldAddr 57 (Operand.tmp 1) 0, type := 0, pos := "law.go:194", after := #[{ on := 0, ground := Ground.phase }, { on := 1, ground := Ground.phase }, { on := 2, ground := Ground.phase }, { on := 3, ground := Ground.phase }, { on := 4, ground := Ground.textOnly Departure.lateStores }, { on := 5, ground := Ground.phase }, { on := 6, ground := Ground.phase }, { on := 7, ground := Ground.textOnly Departure.lateStoresUnsure }], guard := none }) (v := ?vq67) rfl (by kernel_rfl) (by kernel_rfl) (by kernel_rfl) (fun _ _ _ h => h) (Or.inl ⟨by rfl, ?yq67⟩) trivial ?rq67
        case yq67 => (intro w hSw; go_simp; (try with_reducible rfl))
        try simp only [Act.put, List.setIfInBounds_toArray, List.set_cons_zero, List.set_cons_succ]
        refine wpAnyH_ready (rs := [4]) (by kernel_rfl) (by simp) ?_
        refine AllReadyH.cons (o := { dst := some 23, op := Op.buildSlice 55 0 #[], type := 55, pos := "law.go:194", after := #[], guard := none }) rfl (fun K hK => ?_) ?_
        ·
         go_simp
         have hb4 : Blk 66 (W3.alloc (.cells #[] 66)) W3.heap.size [] := Blk.new W3 66 []
         have hge4 : wc.heap.size ≤ W3.heap.size := hcur.size
         have hlo : g3 < W3.heap.size := ow3.lt
         replace ow3 := ow3.alloc (.cells #[] 66)
         replace hcur := hcur.alloc hcur.size (.cells #[] 66)
         refine hK.out _ _ trivial (fun _ => ?_)
         clear hK K
         generalize W3.heap.size = h4 at *
         generalize W3.alloc (.cells #[] 66) = W3z4 at *
         try simp only [Act.put, List.setIfInBounds_toArray, List.set_cons_zero, List.set_cons_succ]
         have hne3 : g3 ≠ h4 := Nat.ne_of_lt hlo
         refine wpAnyH_ready (rs := [7]) (by kernel_rfl) (by simp) ?_
         refine AllReadyH.cons (o := { dst := some 26, op := Op.call { callee := Callee.builtin Builtin.append, args := #[Operand.tmp 23, Operand.tmp 25], argTypes := #[55, 55] }, type := 55, pos := "law.go:194", after := #[{ on := 4, ground := Ground.data }, { on := 6, ground := Ground.data }, { on := 3, ground := Ground.chain }], guard := none }) rfl (fun K hK => ?_) ?_
         ·
          refine step_app rfl (.tmp 23) (.tmp 25) 55 rfl 66 i1 _ Try.underlying55 hj0 hj1 hj2 hj3 rfl h4 rfl hb4 A' M c' (jc l2) rfl HMC.out HL2.out (HQ.out.keep hcur) HON2.out (Nat.le_trans hM66 (by omega)) (fun g7 k7 W7 hor7 hle7 hmx7 ow7 hgr => ?_)
          have hge : wc.heap.size ≤ W3z4.heap.size := hcur.size
          have hwg7 : wc.heap.size ≤ g7 := by rcases hor7 with e | e <;> omega
          replace ow3 := ow3.grown hgr (by simp only [ne_eq, Option.some.injEq]; omega)
          replace hcur : Below wc.heap.size wc W7 := hcur.grown hgr hge (fun k hk => by injection hk with hk; omega)
          clear hgr hge
          refine hK.out _ _ trivial (fun _ => ?_)
          clear hK K hor7
          try simp only [Act.put, List.setIfInBounds_toArray, List.set_cons_zero, List.set_cons_succ]
          have HREL := Lib.hid (shop_rel HS.out hcur ow3 ow7 hqq hql hq1l hwg3 hwg7)
          have z0 : W7.cell? ⟨q, 0, none⟩ = some (.slice A N c) := (hcur.cell (p := ⟨q, 0, none⟩) hql).trans x0
          have z1 : (W7.setCell ⟨q, 0, none⟩ (.slice (some ⟨g3, 0, none⟩) N k3)).cell? ⟨q, 1, none⟩ = some (.slice A' M c') := HREL.out.2.1
          have f0 : W7.frozen? ⟨q, 0, none⟩ = false := HREL.out.2.2.1
          have f1 : (W7.setCell ⟨q, 0, none⟩ (.slice (some ⟨g3, 0, none⟩) N k3)).frozen? ⟨q, 1, none⟩ = false := HREL.out.2.2.2
          refine wpAnyH_ready (rs := [9]) (by kernel_rfl) (by simp) ?_
          refine AllReadyH.cons (i := 9) rfl (fun K hK => ?_) AllReadyH.nil
          go_simp
          refine hK.out _ _ trivial (fun _ => ?_)
          clear hK K
          try simp only [Act.put, List.setIfInBounds_toArray, List.set_cons_zero, List.set_cons_succ]
          refine wpAnyH_take (i := 10) (oi := { dst := some 28, op := Op.fieldAddr 57 (Operand.tmp 1) 1, type := 0, pos := "law.go:194", after := #[{ on := 0, ground := Ground.phase }, { on := 1, ground := Ground.phase }, { on := 2, ground := Ground.phase }, { on := 3, ground := Ground.phase }, { on := 4, ground := Ground.phase }, { on := 5, ground := Ground.phase }, { on := 6, ground := Ground.phase }, { on := 7, ground := Ground.phase }, { on := 8, ground := Ground.phase }, { on := 9, ground := Ground.phase }], guard := none }) (v := ?vq68) rfl (by kernel_rfl) (by kernel_rfl) (by kernel_rfl) (fun _ _ _ h => h) (Or.inl ⟨by rfl, ?yq68⟩) trivial ?rq68
          case yq68 => (intro w hSw; go_simp; (try with_reducible rfl))
          try simp only [Act.put, List.setIfInBounds_toArray, List.set_cons_zero, List.set_cons_succ]
          refine wpAnyH_ready (rs := [11]) (by kernel_rfl) (by simp) ?_
          refine AllReadyH.cons (i := 11) rfl (fun K hK => ?_) AllReadyH.nil
          go_simp
          refine hK.out _ _ trivial (fun _ => ?_)
          clear hK K
          refine wpAnyH_done (by kernel_rfl) ?_ _
          go_wp2_with (fail)
          go_meet
          case rel => exact ⟨_, _, _, _, HREL.out.1⟩
         exact AllReadyH.nil
        exact AllReadyH.nil
       refine AllReadyH.cons (o := { dst := some 23, op := Op.buildSlice 55 0 #[], type := 55, pos := "law.go:194", after := #[], guard := none }) rfl (fun K hK => ?_) ?_
       ·
        go_simp
        have hb4 : Blk 66 (Vz0.alloc (.cells #[] 66)) Vz0.heap.size [] := Blk.new Vz0 66 []
        have hge4 : wc.heap.size ≤ Vz0.heap.size := hcur.size
        have hlo : h0 < Vz0.heap.size := hb0.lt
        replace hb0 := hb0.alloc (.cells #[] 66)
        replace hcur := hcur.alloc hcur.size (.cells #[] 66)
        refine hK.out _ _ trivial (fun _ => ?_)
        clear hK K
        generalize Vz0.heap.size = h4 at *
        generalize Vz0.alloc (.cells #[] 66) = Vz0z4 at *
        try simp only [Act.put, List.setIfInBounds_toArray, List.set_cons_zero, List.set_cons_succ]
        have hne : h4 ≠ h0 := Nat.ne_of_gt hlo
        refine wpAnyH_ready (rs := [3]) (by kernel_rfl) (by simp) ?_
        refine AllReadyH.cons (o := { dst := some 22, op := Op.call { callee := Callee.builtin Builtin.append, args := #[Operand.tmp 19, Operand.tmp 21], argTypes := #[54, 54] }, type := 54, pos := "law.go:194", after := #[{ on := 0, ground := Ground.data }, { on := 2, ground := Ground.data }], guard := none }) rfl (fun K hK => ?_) ?_
        ·
         have hl4 : h4 < Vz0z4.heap.size := hb4.lt
         have hl0 : h0 < Vz0z4.heap.size := hb0.lt
         refine step_app rfl (.tmp 19) (.tmp 21) 54 rfl 68 i0 _ Try.underlying54 hi0 hz0 hz1 hz2 rfl h0 rfl hb0 A N c (jc l1) rfl HNC.out HL1.out (HJ.out.keep hcur) HON.out (Nat.le_trans hN66 (by omega)) (fun g3 k3 W3 hor3 hle3 hmx3 ow3 hgr => ?_)
         have hge : wc.heap.size ≤ Vz0z4.heap.size := hcur.size
         have hwg3 : wc.heap.size ≤ g3 := by rcases hor3 with e | e <;> omega
         replace hb4 := hb4.grown hgr (by simp only [ne_eq, Option.some.injEq]; omega)
         have hne3 : g3 ≠ h4 := by rcases hor3 with e | e <;> omega
         replace hcur : Below wc.heap.size wc W3 := hcur.grown hgr hge (fun k hk => by injection hk with hk; omega)
         clear hgr hge
         refine hK.out _ _ trivial (fun _ => ?_)
         clear hK K hor3
         try simp only [Act.put, List.setIfInBounds_toArray, List.set_cons_zero, List.set_cons_succ]
         refine wpAnyH_take (i := 8) (oi := { dst := some 27, op := Op.fieldAddr 57 (Operand.tmp 1) 0, type := 0, pos := "law.go:194", after := #[{ on := 0, ground := Ground.phase }, { on := 1, ground := Ground.phase }, { on := 2, ground := Ground.phase }, { on := 3, ground := Ground.phase }, { on := 4, ground := Ground.textOnly Departure.lateStores }, { on := 5, ground := Ground.phase }, { on := 6, ground := Ground.phase }, { on := 7, ground := Ground.textOnly Departure.lateStoresUnsure }], guard := none }) (v := ?vq69) rfl (by kernel_rfl) (by kernel_rfl) (by kernel_rfl) (fun _ _ _ h => h) (Or.inl ⟨by rfl, ?yq69⟩) trivial ?rq69
         case yq69 => (intro w hSw; go_simp; (try with_reducible rfl))
         try simp only [Act.put, List.setIfInBounds_toArray, List.set_cons_zero, List.set_cons_succ]
         refine wpAnyH_ready (rs := [7]) (by kernel_rfl) (by simp) ?_
         refine AllReadyH.cons (o := { dst := some 26, op := Op.call { callee := Callee.builtin Builtin.append, args := #[Operand.tmp 23, Operand.tmp 25], argTypes := #[55, 55] }, type := 55, pos := "law.go:194", after := #[{ on := 4, ground := Ground.data }, { on := 6, ground := Ground.data }, { on := 3, ground := Ground.chain }], guard := none }) rfl (fun K hK => ?_) ?_
         ·
          refine step_app rfl (.tmp 23) (.tmp 25) 55 rfl 66 i1 _ Try.underlying55 hj0 hj1 hj2 hj3 rfl h4 rfl hb4 A' M c' (jc l2) rfl HMC.out HL2.out (HQ.out.keep hcur) HON2.out (Nat.le_trans hM66 (by omega)) (fun g7 k7 W7 hor7 hle7 hmx7 ow7 hgr => ?_)
          have hge : wc.heap.size ≤ W3.heap.size := hcur.size
          have hwg7 : wc.heap.size ≤ g7 := by rcases hor7 with e | e <;> omega
          replace ow3 := ow3.grown hgr (by simp only [ne_eq, Option.some.injEq]; omega)
          replace hcur : Below wc.heap.size wc W7 := hcur.grown hgr hge (fun k hk => by injection hk with hk; omega)
          clear hgr hge
          refine hK.out _ _ trivial (fun _ => ?_)
          clear hK K hor7
          try simp only [Act.put, List.setIfInBounds_toArray, List.set_cons_zero, List.set_cons_succ]
          have HREL := Lib.hid (shop_rel HS.out hcur ow3 ow7 hqq hql hq1l hwg3 hwg7)
          have z0 : W7.cell? ⟨q, 0, none⟩ = some (.slice A N c) := (hcur.cell (p := ⟨q, 0, none⟩) hql).trans x0
          have z1 : (W7.setCell ⟨q, 0, none⟩ (.slice (some ⟨g3, 0, none⟩) N k3)).cell? ⟨q, 1, none⟩ = some (.slice A' M c') := HREL.out.2.1
          have f0 : W7.frozen? ⟨q, 0, none⟩ = false := HREL.out.2.2.1
          have f1 : (W7.setCell ⟨q, 0, none⟩ (.slice (some ⟨g3, 0, none⟩) N k3)).frozen? ⟨q, 1, none⟩ = false := HREL.out.2.2.2
          refine wpAnyH_ready (rs := [9]) (by kernel_rfl) (by simp) ?_
          refine AllReadyH.cons (i := 9) rfl (fun K hK => ?_) AllReadyH.nil
          go_simp
          refine hK.out _ _ trivial (fun _ => ?_)
          clear hK K
          try simp only [Act.put, List.setIfInBounds_toArray, List.set_cons_zero, List.set_cons_succ]
          refine wpAnyH_take (i := 10) (oi := { dst := some 28, op := Op.fieldAddr 57 (Operand.tmp 1) 1, type := 0, pos := "law.go:194", after := #[{ on := 0, ground := Ground.phase }, { on := 1, ground := Ground.phase }, { on := 2, ground := Ground.phase }, { on := 3, ground := Ground.phase }, { on := 4, ground := Ground.phase }, { on := 5, ground := Ground.phase }, { on := 6, ground := Ground.phase }, { on := 7, ground := Ground.phase }, { on := 8, ground := Ground.phase }, { on := 9, ground := Ground.phase }], guard := none }) (v := ?vq70) rfl (by kernel_rfl) (by kernel_rfl) (by kernel_rfl) (fun _ _ _ h => h) (Or.inl ⟨by rfl, ?yq70⟩) trivial ?rq70
          case yq70 => (intro w hSw; go_simp; (try with_reducible rfl))
          try simp only [Act.put, List.setIfInBounds_toArray, List.set_cons_zero, List.set_cons_succ]
          refine wpAnyH_ready (rs := [11]) (by kernel_rfl) (by simp) ?_
          refine AllReadyH.cons (i := 11) rfl (fun K hK => ?_) AllReadyH.nil
          go_simp
          refine hK.out _ _ trivial (fun _ => ?_)
          clear hK K
          refine wpAnyH_done (by kernel_rfl) ?_ _
          go_wp2_with (fail)
          go_meet
          case rel => exact ⟨_, _, _, _, HREL.out.1⟩
         exact AllReadyH.nil
        exact AllReadyH.nil
       exact AllReadyH.nil
      refine AllReadyH.cons (o := { dst := some 23, op := Op.buildSlice 55 0 #[], type := 55, pos := "law.go:194", after := #[], guard := none }) rfl (fun K hK => ?_) ?_
      ·
       go_simp
       have hb4 : Blk 66 (Vz0.alloc (.cells #[] 66)) Vz0.heap.size [] := Blk.new Vz0 66 []
       have hge4 : wc.heap.size ≤ Vz0.heap.size := hcur.size
       have hlo : h0 < Vz0.heap.size := hb0.lt
       replace hb0 := hb0.alloc (.cells #[] 66)
       replace hcur := hcur.alloc hcur.size (.cells #[] 66)
       refine hK.out _ _ trivial (fun _ => ?_)
       clear hK K
       generalize Vz0.heap.size = h4 at *
       generalize Vz0.alloc (.cells #[] 66) = Vz0z4 at *
       try simp only [Act.put, List.setIfInBounds_toArray, List.set_cons_zero, List.set_cons_succ]
       have hne : h4 ≠ h0 := Nat.ne_of_gt hlo
       refine wpAnyH_ready (rs := [2]) (by kernel_rfl) (by simp) ?_
       refine AllReadyH.cons (o := { dst := some 21, op := Op.load 54 (Operand.tmp 20), type := 54, pos := "law.go:194", after := #[{ on := 1, ground := Ground.data }], guard := none }) rfl (fun K hK => ?_) ?_
       ·
        have xc : Vz0z4.cell? ⟨q, 0, none⟩ = some (.slice A N c) := (hcur.cell (p := ⟨q, 0, none⟩) hql).trans x0
        go_simp
        refine hK.out _ _ trivial (fun _ => ?_)
        clear hK K xc
        try simp only [Act.put, List.setIfInBounds_toArray, List.set_cons_zero, List.set_cons_succ]
        refine wpAnyH_ready (rs := [3]) (by kernel_rfl) (by simp) ?_
        refine AllReadyH.cons (o := { dst := some 22, op := Op.call { callee := Callee.builtin Builtin.append, args := #[Operand.tmp 19, Operand.tmp 21], argTypes := #[54, 54] }, type := 54, pos := "law.go:194", after := #[{ on := 0, ground := Ground.data }, { on := 2, ground := Ground.data }], guard := none }) rfl (fun K hK => ?_) ?_
        ·
         have hl4 : h4 < Vz0z4.heap.size := hb4.lt
         have hl0 : h0 < Vz0z4.heap.size := hb0.lt
         refine step_app rfl (.tmp 19) (.tmp 21) 54 rfl 68 i0 _ Try.underlying54 hi0 hz0 hz1 hz2 rfl h0 rfl hb0 A N c (jc l1) rfl HNC.out HL1.out (HJ.out.keep hcur) HON.out (Nat.le_trans hN66 (by omega)) (fun g3 k3 W3 hor3 hle3 hmx3 ow3 hgr => ?_)
         have hge : wc.heap.size ≤ Vz0z4.heap.size := hcur.size
         have hwg3 : wc.heap.size ≤ g3 := by rcases hor3 with e | e <;> omega
         replace hb4 := hb4.grown hgr (by simp only [ne_eq, Option.some.injEq]; omega)
         have hne3 : g3 ≠ h4 := by rcases hor3 with e | e <;> omega
         replace hcur : Below wc.heap.size wc W3 := hcur.grown hgr hge (fun k hk => by injection hk with hk; omega)
         clear hgr hge
         refine hK.out _ _ trivial (fun _ => ?_)
         clear hK K hor3
         try simp only [Act.put, List.setIfInBounds_toArray, List.set_cons_zero, List.set_cons_succ]
         refine wpAnyH_take (i := 8) (oi := { dst := some 27, op := Op.fieldAddr 57 (Operand.tmp 1) 0, type := 0, pos := "law.go:194", after := #[{ on := 0, ground := Ground.phase }, { on := 1, ground := Ground.phase }, { on := 2, ground := Ground.phase }, { on := 3, ground := Ground.phase }, { on := 4, ground := Ground.textOnly Departure.lateStores }, { on := 5, ground := Ground.phase }, { on := 6, ground := Ground.phase }, { on := 7, ground := Ground.textOnly Departure.lateStoresUnsure }], guard := none }) (v := ?vq71) rfl (by kernel_rfl) (by kernel_rfl) (by kernel_rfl) (fun _ _ _ h => h) (Or.inl ⟨by rfl, ?yq71⟩) trivial ?rq71
         case yq71 => (intro w hSw; go_simp; (try with_reducible rfl))
         try simp only [Act.put, List.setIfInBounds_toArray, List.set_cons_zero, List.set_cons_succ]
         refine wpAnyH_ready (rs := [7]) (by kernel_rfl) (by simp) ?_
         refine AllReadyH.cons (o := { dst := some 26, op := Op.call { callee := Callee.builtin Builtin.append, args := #[Operand.tmp 23, Operand.tmp 25], argTypes := #[55, 55] }, type := 55, pos := "law.go:194", after := #[{ on := 4, ground := Ground.data }, { on := 6, ground := Ground.data }, { on := 3, ground := Ground.chain }], guard := none }) rfl (fun K hK => ?_) ?_
         ·
          refine step_app rfl (.tmp 23) (.tmp 25) 55 rfl 66 i1 _ Try.underlying55 hj0 hj1 hj2 hj3 rfl h4 rfl hb4 A' M c' (jc l2) rfl HMC.out HL2.out (HQ.out.keep hcur) HON2.out (Nat.le_trans hM66 (by omega)) (fun g7 k7 W7 hor7 hle7 hmx7 ow7 hgr => ?_)
          have hge : wc.heap.size ≤ W3.heap.size := hcur.size
          have hwg7 : wc.heap.size ≤ g7 := by rcases hor7 with e | e <;> omega
          replace ow3 := ow3.grown hgr (by simp only [ne_eq, Option.some.injEq]; omega)
          replace hcur : Below wc.heap.size wc W7 := hcur.grown hgr hge (fun k hk => by injection hk with hk; omega)
          clear hgr hge
          refine hK.out _ _ trivial (fun _ => ?_)
          clear hK K hor7
          try simp only [Act.put, List.setIfInBounds_toArray, List.set_cons_zero, List.set_cons_succ]
          have HREL := Lib.hid (shop_rel HS.out hcur ow3 ow7 hqq hql hq1l hwg3 hwg7)
          have z0 : W7.cell? ⟨q, 0, none⟩ = some (.slice A N c) := (hcur.cell (p := ⟨q, 0, none⟩) hql).trans x0
          have z1 : (W7.setCell ⟨q, 0, none⟩ (.slice (some ⟨g3, 0, none⟩) N k3)).cell? ⟨q, 1, none⟩ = some (.slice A' M c') := HREL.out.2.1
          have f0 : W7.frozen? ⟨q, 0, none⟩ = false := HREL.out.2.2.1
          have f1 : (W7.setCell ⟨q, 0, none⟩ (.slice (some ⟨g3, 0, none⟩) N k3)).frozen? ⟨q, 1, none⟩ = false := HREL.out.2.2.2
          refine wpAnyH_ready (rs := [9]) (by kernel_rfl) (by simp) ?_
          refine AllReadyH.cons (i := 9) rfl (fun K hK => ?_) AllReadyH.nil
          go_simp
          refine hK.out _ _ trivial (fun _ => ?_)
          clear hK K
          try simp only [Act.put, List.setIfInBounds_toArray, List.set_cons_zero, List.set_cons_succ]
          refine wpAnyH_take (i := 10) (oi := { dst := some 28, op := Op.fieldAddr 57 (Operand.tmp 1) 1, type := 0, pos := "law.go:194", after := #[{ on := 0, ground := Ground.phase }, { on := 1, ground := Ground.phase }, { on := 2, ground := Ground.phase }, { on := 3, ground := Ground.phase }, { on := 4, ground := Ground.phase }, { on := 5, ground := Ground.phase }, { on := 6, ground := Ground.phase }, { on := 7, ground := Ground.phase }, { on := 8, ground := Ground.phase }, { on := 9, ground := Ground.phase }], guard := none }) (v := ?vq72) rfl (by kernel_rfl) (by kernel_rfl) (by kernel_rfl) (fun _ _ _ h => h) (Or.inl ⟨by rfl, ?yq72⟩) trivial ?rq72
          case yq72 => (intro w hSw; go_simp; (try with_reducible rfl))
          try simp only [Act.put, List.setIfInBounds_toArray, List.set_cons_zero, List.set_cons_succ]
          refine wpAnyH_ready (rs := [11]) (by kernel_rfl) (by simp) ?_
          refine AllReadyH.cons (i := 11) rfl (fun K hK => ?_) AllReadyH.nil
          go_simp
          refine hK.out _ _ trivial (fun _ => ?_)
          clear hK K
          refine wpAnyH_done (by kernel_rfl) ?_ _
          go_wp2_with (fail)
          go_meet
          case rel => exact ⟨_, _, _, _, HREL.out.1⟩
         exact AllReadyH.nil
        exact AllReadyH.nil
       exact AllReadyH.nil
      exact AllReadyH.nil
     refine AllReadyH.cons (o := { dst := some 21, op := Op.load 54 (Operand.tmp 20), type := 54, pos := "law.go:194", after := #[{ on := 1, ground := Ground.data }], guard := none }) rfl (fun K hK => ?_) ?_
     ·
      have xc : V.cell? ⟨q, 0, none⟩ = some (.slice A N c) := (hcur.cell (p := ⟨q, 0, none⟩) hql).trans x0
      go_simp
      refine hK.out _ _ trivial (fun _ => ?_)
      clear hK K xc
      try simp only [Act.put, List.setIfInBounds_toArray, List.set_cons_zero, List.set_cons_succ]
      refine wpAnyH_ready (rs := [0, 4]) (by kernel_rfl) (by simp) ?_
      refine AllReadyH.cons (o := { dst := some 19, op := Op.buildSlice 54 0 #[], type := 54, pos := "law.go:194", after := #[], guard := none }) rfl (fun K hK => ?_) ?_
      ·
       go_simp
       have hb0 : Blk 68 (V.alloc (.cells #[] 68)) V.heap.size [] := Blk.new V 68 []
       have hge0 : wc.heap.size ≤ V.heap.size := hcur.size
       replace hcur := hcur.alloc hcur.size (.cells #[] 68)
       refine hK.out _ _ trivial (fun _ => ?_)
       clear hK K
       generalize V.heap.size = h0 at *
       generalize V.alloc (.cells #[] 68) = Vz0 at *
       try simp only [Act.put, List.setIfInBounds_toArray, List.set_cons_zero, List.set_cons_succ]
       refine wpAnyH_ready (rs := [3, 4]) (by kernel_rfl) (by simp) ?_
       refine AllReadyH.cons (o := { dst := some 22, op := Op.call { callee := Callee.builtin Builtin.append, args := #[Operand.tmp 19, Operand.tmp 21], argTypes := #[54, 54] }, type := 54, pos := "law.go:194", after := #[{ on := 0, ground := Ground.data }, { on := 2, ground := Ground.data }], guard := none }) rfl (fun K hK => ?_) ?_
       ·
        have hl0 : h0 < Vz0.heap.size := hb0.lt
        refine step_app rfl (.tmp 19) (.tmp 21) 54 rfl 68 i0 _ Try.underlying54 hi0 hz0 hz1 hz2 rfl h0 rfl hb0 A N c (jc l1) rfl HNC.out HL1.out (HJ.out.keep hcur) HON.out (Nat.le_trans hN66 (by omega)) (fun g3 k3 W3 hor3 hle3 hmx3 ow3 hgr => ?_)
        have hge : wc.heap.size ≤ Vz0.heap.size := hcur.size
        have hwg3 : wc.heap.size ≤ g3 := by rcases hor3 with e | e <;> omega
        replace hcur : Below wc.heap.size wc W3 := hcur.grown hgr hge (fun k hk => by injection hk with hk; omega)
        clear hgr hge
        refine hK.out _ _ trivial (fun _ => ?_)
        clear hK K hor3
        try simp only [Act.put, List.setIfInBounds_toArray, List.set_cons_zero, List.set_cons_succ]
        refine wpAnyH_take (i := 8) (oi := { dst := some 27, op := Op.fieldAddr 57 (Operand.tmp 1) 0, type := 0, pos := "law.go:194", after := #[{ on := 0, ground := Ground.phase }, { on := 1, ground := Ground.phase }, { on := 2, ground := Ground.phase }, { on := 3, ground := Ground.phase }, { on := 4, ground := Ground.textOnly Departure.lateStores }, { on := 5, ground := Ground.phase }, { on := 6, ground := Ground.phase }, { on := 7, ground := Ground.textOnly Departure.lateStoresUnsure }], guard := none }) (v := ?vq73) rfl (by kernel_rfl) (by kernel_rfl) (by kernel_rfl) (fun _ _ _ h => h) (Or.inl ⟨by rfl, ?yq73⟩) trivial ?rq73
        case yq73 => (intro w hSw; go_simp; (try with_reducible rfl))
        try simp only [Act.put, List.setIfInBounds_toArray, List.set_cons_zero, List.set_cons_succ]
        refine wpAnyH_ready (rs := [4]) (by kernel_rfl) (by simp) ?_
        refine AllReadyH.cons (o := { dst := some 23, op := Op.buildSlice 55 0 #[], type := 55, pos := "law.go:194", after := #[], guard := none }) rfl (fun K hK => ?_) ?_
        ·
         go_simp
         have hb4 : Blk 66 (W3.alloc (.cells #[] 66)) W3.heap.size [] := Blk.new W3 66 []
         have hge4 : wc.heap.size ≤ W3.heap.size := hcur.size
         have hlo : g3 < W3.heap.size := ow3.lt
         replace ow3 := ow3.alloc (.cells #[] 66)
         replace hcur := hcur.alloc hcur.size (.cells #[] 66)
         refine hK.out _ _ trivial (fun _ => ?_)
         clear hK K
         generalize W3.heap.size = h4 at *
         generalize W3.alloc (.cells #[] 66) = W3z4 at *
         try simp only [Act.put, List.setIfInBounds_toArray, List.set_cons_zero, List.set_cons_succ]
         have hne3 : g3 ≠ h4 := Nat.ne_of_lt hlo
         refine wpAnyH_ready (rs := [7]) (by kernel_rfl) (by simp) ?_
         refine AllReadyH.cons (o := { dst := some 26, op := Op.call { callee := Callee.builtin Builtin.append, args := #[Operand.tmp 23, Operand.tmp 25], argTypes := #[55, 55] }, type := 55, pos := "law.go:194", after := #[{ on := 4, ground := Ground.data }, { on := 6, ground := Ground.data }, { on := 3, ground := Ground.chain }], guard := none }) rfl (fun K hK => ?_) ?_
         ·
          refine step_app rfl (.tmp 23) (.tmp 25) 55 rfl 66 i1 _ Try.underlying55 hj0 hj1 hj2 hj3 rfl h4 rfl hb4 A' M c' (jc l2) rfl HMC.out HL2.out (HQ.out.keep hcur) HON2.out (Nat.le_trans hM66 (by omega)) (fun g7 k7 W7 hor7 hle7 hmx7 ow7 hgr => ?_)
          have hge : wc.heap.size ≤ W3z4.heap.size := hcur.size
          have hwg7 : wc.heap.size ≤ g7 := by rcases hor7 with e | e <;> omega
          replace ow3 := ow3.grown hgr (by simp only [ne_eq, Option.some.injEq]; omega)
          replace hcur : Below wc.heap.size wc W7 := hcur.grown hgr hge (fun k hk => by injection hk with hk; omega)
          clear hgr hge
          refine hK.out _ _ trivial (fun _ => ?_)
          clear hK K hor7
          try simp only [Act.put, List.setIfInBounds_toArray, List.set_cons_zero, List.set_cons_succ]
          have HREL := Lib.hid (shop_rel HS.out hcur ow3 ow7 hqq hql hq1l hwg3 hwg7)
          have z0 : W7.cell? ⟨q, 0, none⟩ = some (.slice A N c) := (hcur.cell (p := ⟨q, 0, none⟩) hql).trans x0
          have z1 : (W7.setCell ⟨q, 0, none⟩ (.slice (some ⟨g3, 0, none⟩) N k3)).cell? ⟨q, 1, none⟩ = some (.slice A' M c') := HREL.out.2.1
          have f0 : W7.frozen? ⟨q, 0, none⟩ = false := HREL.out.2.2.1
          have f1 : (W7.setCell ⟨q, 0, none⟩ (.slice (some ⟨g3, 0, none⟩) N k3)).frozen? ⟨q, 1, none⟩ = false := HREL.out.2.2.2
          refine wpAnyH_ready (rs := [9]) (by kernel_rfl) (by simp) ?_
          refine AllReadyH.cons (i := 9) rfl (fun K hK => ?_) AllReadyH.nil
          go_simp
          refine hK.out _ _ trivial (fun _ => ?_)
          clear hK K
          try simp only [Act.put, List.setIfInBounds_toArray, List.set_cons_zero, List.set_cons_succ]
          refine wpAnyH_take (i := 10) (oi := { dst := some 28, op := Op.fieldAddr 57 (Operand.tmp 1) 1, type := 0, pos := "law.go:194", after := #[{ on := 0, ground := Ground.phase }, { on := 1, ground := Ground.phase }, { on := 2, ground := Ground.phase }, { on := 3, ground := Ground.phase }, { on := 4, ground := Ground.phase }, { on := 5, ground := Ground.phase }, { on := 6, ground := Ground.phase }, { on := 7, ground := Ground.phase }, { on := 8, ground := Ground.phase }, { on := 9, ground := Ground.phase }], guard := none }) (v := ?vq74) rfl (by kernel_rfl) (by kernel_rfl) (by kernel_rfl) (fun _ _ _ h => h) (Or.inl ⟨by rfl, ?yq74⟩) trivial ?rq74
          case yq74 => (intro w hSw; go_simp; (try with_reducible rfl))
          try simp only [Act.put, List.setIfInBounds_toArray, List.set_cons_zero, List.set_cons_succ]
          refine wpAnyH_ready (rs := [11]) (by kernel_rfl) (by simp) ?_
          refine AllReadyH.cons (i := 11) rfl (fun K hK => ?_) AllReadyH.nil
          go_simp
          refine hK.out _ _ trivial (fun _ => ?_)
          clear hK K
          refine wpAnyH_done (by kernel_rfl) ?_ _
          go_wp2_with (fail)
          go_meet
          case rel => exact ⟨_, _, _, _, HREL.out.1⟩
         exact AllReadyH.nil
        exact AllReadyH.nil
       refine AllReadyH.cons (o := { dst := some 23, op := Op.buildSlice 55 0 #[], type := 55, pos := "law.go:194", after := #[], guard := none }) rfl (fun K hK => ?_) ?_
       ·
        go_simp
        have hb4 : Blk 66 (Vz0.alloc (.cells #[] 66)) Vz0.heap.size [] := Blk.new Vz0 66 []
        have hge4 : wc.heap.size ≤ Vz0.heap.size := hcur.size
        have hlo : h0 < Vz0.heap.size := hb0.lt
        replace hb0 := hb0.alloc (.cells #[] 66)
        replace hcur := hcur.alloc hcur.size (.cells #[] 66)
        refine hK.out _ _ trivial (fun _ => ?_)
        clear hK K
        generalize Vz0.heap.size = h4 at *
        generalize Vz0.alloc (.cells #[] 66) = Vz0z4 at *
        try simp only [Act.put, List.setIfInBounds_toArray, List.set_cons_zero, List.set_cons_succ]
        have hne : h4 ≠ h0 := Nat.ne_of_gt hlo
        refine wpAnyH_ready (rs := [3]) (by kernel_rfl) (by simp) ?_
        refine AllReadyH.cons (o := { dst := some 22, op := Op.call { callee := Callee.builtin Builtin.append, args := #[Operand.tmp 19, Operand.tmp 21], argTypes := #[54, 54] }, type := 54, pos := "law.go:194", after := #[{ on := 0, ground := Ground.data }, { on := 2, ground := Ground.data }], guard := none }) rfl (fun K hK => ?_) ?_
        ·
         have hl4 : h4 < Vz0z4.heap.size := hb4.lt
         have hl0 : h0 < Vz0z4.heap.size := hb0.lt
         refine step_app rfl (.tmp 19) (.tmp 21) 54 rfl 68 i0 _ Try.underlying54 hi0 hz0 hz1 hz2 rfl h0 rfl hb0 A N c (jc l1) rfl HNC.out HL1.out (HJ.out.keep hcur) HON.out (Nat.le_trans hN66 (by omega)) (fun g3 k3 W3 hor3 hle3 hmx3 ow3 hgr => ?_)
         have hge : wc.heap.size ≤ Vz0z4.heap.size := hcur.size
         have hwg3 : wc.heap.size ≤ g3 := by rcases hor3 with e | e <;> omega
         replace hb4 := hb4.grown hgr (by simp only [ne_eq, Option.some.injEq]; omega)
         have hne3 : g3 ≠ h4 := by rcases hor3 with e | e <;> omega
         replace hcur : Below wc.heap.size wc W3 := hcur.grown hgr hge (fun k hk => by injection hk with hk; omega)
         clear hgr hge
         refine hK.out _ _ trivial (fun _ => ?_)
         clear hK K hor3
         try simp only [Act.put, List.setIfInBounds_toArray, List.set_cons_zero, List.set_cons_succ]
         refine wpAnyH_take (i := 8) (oi := { dst := some 27, op := Op.fieldAddr 57 (Operand.tmp 1) 0, type := 0, pos := "law.go:194", after := #[{ on := 0, ground := Ground.phase }, { on := 1, ground := Ground.phase }, { on := 2, ground := Ground.phase }, { on := 3, ground := Ground.phase }, { on := 4, ground := Ground.textOnly Departure.lateStores }, { on := 5, ground := Ground.phase }, { on := 6, ground := Ground.phase }, { on := 7, ground := Ground.textOnly Departure.lateStoresUnsure }], guard := none }) (v := ?vq75) rfl (by kernel_rfl) (by kernel_rfl) (by kernel_rfl) (fun _ _ _ h => h) (Or.inl ⟨by rfl, ?yq75⟩) trivial ?rq75
         case yq75 => (intro w hSw; go_simp; (try with_reducible rfl))
         try simp only [Act.put, List.setIfInBounds_toArray, List.set_cons_zero, List.set_cons_succ]
         refine wpAnyH_ready (rs := [7]) (by kernel_rfl) (by simp) ?_
         refine AllReadyH.cons (o := { dst := some 26, op := Op.call { callee := Callee.builtin Builtin.append, args := #[Operand.tmp 23, Operand.tmp 25], argTypes := #[55, 55] }, type := 55, pos := "law.go:194", after := #[{ on := 4, ground := Ground.data }, { on := 6, ground := Ground.data }, { on := 3, ground := Ground.chain }], guard := none }) rfl (fun K hK => ?_) ?_
         ·
          refine step_app rfl (.tmp 23) (.tmp 25) 55 rfl 66 i1 _ Try.underlying55 hj0 hj1 hj2 hj3 rfl h4 rfl hb4 A' M c' (jc l2) rfl HMC.out HL2.out (HQ.out.keep hcur) HON2.out (Nat.le_trans hM66 (by omega)) (fun g7 k7 W7 hor7 hle7 hmx7 ow7 hgr => ?_)
          have hge : wc.heap.size ≤ W3.heap.size := hcur.size
          have hwg7 : wc.heap.size ≤ g7 := by rcases hor7 with e | e <;> omega
          replace ow3 := ow3.grown hgr (by simp only [ne_eq, Option.some.injEq]; omega)
          replace hcur : Below wc.heap.size wc W7 := hcur.grown hgr hge (fun k hk => by injection hk with hk; omega)
          clear hgr hge
          refine hK.out _ _ trivial (fun _ => ?_)
          clear hK K hor7
          try simp only [Act.put, List.setIfInBounds_toArray, List.set_cons_zero, List.set_cons_succ]
          have HREL := Lib.hid (shop_rel HS.out hcur ow3 ow7 hqq hql hq1l hwg3 hwg7)
          have z0 : W7.cell? ⟨q, 0, none⟩ = some (.slice A N c) := (hcur.cell (p := ⟨q, 0, none⟩) hql).trans x0
          have z1 : (W7.setCell ⟨q, 0, none⟩ (.slice (some ⟨g3, 0, none⟩) N k3)).cell? ⟨q, 1, none⟩ = some (.slice A' M c') := HREL.out.2.1
          have f0 : W7.frozen? ⟨q, 0, none⟩ = false := HREL.out.2.2.1
          have f1 : (W7.setCell ⟨q, 0, none⟩ (.slice (some ⟨g3, 0, none⟩) N k3)).frozen? ⟨q, 1, none⟩ = false := HREL.out.2.2.2
          refine wpAnyH_ready (rs := [9]) (by kernel_rfl) (by simp) ?_
          refine AllReadyH.cons (i := 9) rfl (fun K hK => ?_) AllReadyH.nil
          go_simp
          refine hK.out _ _ trivial (fun _ => ?_)
          clear hK K
          try simp only [Act.put, List.setIfInBounds_toArray, List.set_cons_zero, List.set_cons_succ]
          refine wpAnyH_take (i := 10) (oi := { dst := some 28, op := Op.fieldAddr 57 (Operand.tmp 1) 1, type := 0, pos := "law.go:194", after := #[{ on := 0, ground := Ground.phase }, { on := 1, ground := Ground.phase }, { on := 2, ground := Ground.phase }, { on := 3, ground := Ground.phase }, { on := 4, ground := Ground.phase }, { on := 5, ground := Ground.phase }, { on := 6, ground := Ground.phase }, { on := 7, ground := Ground.phase }, { on := 8, ground := Ground.phase }, { on := 9, ground := Ground.phase }], guard := none }) (v := ?vq76) rfl (by kernel_rfl) (by kernel_rfl) (by kernel_rfl) (fun _ _ _ h => h) (Or.inl ⟨by rfl, ?yq76⟩) trivial ?rq76
          case yq76 => (intro w hSw; go_simp; (try with_reducible rfl))
          try simp only [Act.put, List.setIfInBounds_toArray, List.set_cons_zero, List.set_cons_succ]
          refine wpAnyH_ready (rs := [11]) (by kernel_rfl) (by simp) ?_
          refine AllReadyH.cons (i := 11) rfl (fun K hK => ?_) AllReadyH.nil
          go_simp
          refine hK.out _ _ trivial (fun _ => ?_)
          clear hK K
          refine wpAnyH_done (by kernel_rfl) ?_ _
          go_wp2_with (fail)
          go_meet
          case rel => exact ⟨_, _, _, _, HREL.out.1⟩
         exact AllReadyH.nil
        exact AllReadyH.nil
       exact AllReadyH.nil
      refine AllReadyH.cons (o := { dst := some 23, op := Op.buildSlice 55 0 #[], type := 55, pos := "law.go:194", after := #[], guard := none }) rfl (fun K hK => ?_) ?_
      ·
       go_simp
       have hb4 : Blk 66 (V.alloc (.cells #[] 66)) V.heap.size [] := Blk.new V 66 []
       have hge4 : wc.heap.size ≤ V.heap.size := hcur.size
       replace hcur := hcur.alloc hcur.size (.cells #[] 66)
       refine hK.out _ _ trivial (fun _ => ?_)
       clear hK K
       generalize V.heap.size = h4 at *
       generalize V.alloc (.cells #[] 66) = Vz4 at *
       try simp only [Act.put, List.setIfInBounds_toArray, List.set_cons_zero, List.set_cons_succ]
       refine wpAnyH_ready (rs := [0]) (by kernel_rfl) (by simp) ?_
       refine AllReadyH.cons (o := { dst := some 19, op := Op.buildSlice 54 0 #[], type := 54, pos := "law.go:194", after := #[], guard := none }) rfl (fun K hK => ?_) ?_
       ·
        go_simp
        have hb0 : Blk 68 (Vz4.alloc (.cells #[] 68)) Vz4.heap.size [] := Blk.new Vz4 68 []
        have hge0 : wc.heap.size ≤ Vz4.heap.size := hcur.size
        have hlo : h4 < Vz4.heap.size := hb4.lt
        replace hb4 := hb4.alloc (.cells #[] 68)
        replace hcur := hcur.alloc hcur.size (.cells #[] 68)
        refine hK.out _ _ trivial (fun _ => ?_)
        clear hK K
        generalize Vz4.heap.size = h0 at *
        generalize Vz4.alloc (.cells #[] 68) = Vz4z0 at *
        try simp only [Act.put, List.setIfInBounds_toArray, List.set_cons_zero, List.set_cons_succ]
        have hne : h0 ≠ h4 := Nat.ne_of_gt hlo
        refine wpAnyH_ready (rs := [3]) (by kernel_rfl) (by simp) ?_
        refine AllReadyH.cons (o := { dst := some 22, op := Op.call { callee := Callee.builtin Builtin.append, args := #[Operand.tmp 19, Operand.tmp 21], argTypes := #[54, 54] }, type := 54, pos := "law.go:194", after := #[{ on := 0, ground := Ground.data }, { on := 2, ground := Ground.data }], guard := none }) rfl (fun K hK => ?_) ?_
        ·
         have hl4 : h4 < Vz4z0.heap.size := hb4.lt
         have hl0 : h0 < Vz4z0.heap.size := hb0.lt
         refine step_app rfl (.tmp 19) (.tmp 21) 54 rfl 68 i0 _ Try.underlying54 hi0 hz0 hz1 hz2 rfl h0 rfl hb0 A N c (jc l1) rfl HNC.out HL1.out (HJ.out.keep hcur) HON.out (Nat.le_trans hN66 (by omega)) (fun g3 k3 W3 hor3 hle3 hmx3 ow3 hgr => ?_)
         have hge : wc.heap.size ≤ Vz4z0.heap.size := hcur.size
         have hwg3 : wc.heap.size ≤ g3 := by rcases hor3 with e | e <;> omega
         replace hb4 := hb4.grown hgr (by simp only [ne_eq, Option.some.injEq]; omega)
         have hne3 : g3 ≠ h4 := by rcases hor3 with e | e <;> omega
         replace hcur : Below wc.heap.size wc W3 := hcur.grown hgr hge (fun k hk => by injection hk with hk; omega)
         clear hgr hge
         refine hK.out _ _ trivial (fun _ => ?_)
         clear hK K hor3
         try simp only [Act.put, List.setIfInBounds_toArray, List.set_cons_zero, List.set_cons_succ]
         refine wpAnyH_take (i := 8) (oi := { dst := some 27, op := Op.fieldAddr 57 (Operand.tmp 1) 0, type := 0, pos := "law.go:194", after := #[{ on := 0, ground := Ground.phase }, { on := 1, ground := Ground.phase }, { on := 2, ground := Ground.phase }, { on := 3, ground := Ground.phase }, { on := 4, ground := Ground.textOnly Departure.lateStores }, { on := 5, ground := Ground.phase }, { on := 6, ground := Ground.phase }, { on := 7, ground := Ground.textOnly Departure.lateStoresUnsure }], guard := none }) (v := ?vq77) rfl (by kernel_rfl) (by kernel_rfl) (by kernel_rfl) (fun _ _ _ h => h) (Or.inl ⟨by rfl, ?yq77⟩) trivial ?rq77
         case yq77 => (intro w hSw; go_simp; (try with_reducible rfl))
         try simp only [Act.put, List.setIfInBounds_toArray, List.set_cons_zero, List.set_cons_succ]
         refine wpAnyH_ready (rs := [7]) (by kernel_rfl) (by simp) ?_
         refine AllReadyH.cons (o := { dst := some 26, op := Op.call { callee := Callee.builtin Builtin.append, args := #[Operand.tmp 23, Operand.tmp 25], argTypes := #[55, 55] }, type := 55, pos := "law.go:194", after := #[{ on := 4, ground := Ground.data }, { on := 6, ground := Ground.data }, { on := 3, ground := Ground.chain }], guard := none }) rfl (fun K hK => ?_) ?_
         ·
          refine step_app rfl (.tmp 23) (.tmp 25) 55 rfl 66 i1 _ Try.underlying55 hj0 hj1 hj2 hj3 rfl h4 rfl hb4 A' M c' (jc l2) rfl HMC.out HL2.out (HQ.out.keep hcur) HON2.out (Nat.le_trans hM66 (by omega)) (fun g7 k7 W7 hor7 hle7 hmx7 ow7 hgr => ?_)
          have hge : wc.heap.size ≤ W3.heap.size := hcur.size
          have hwg7 : wc.heap.size ≤ g7 := by rcases hor7 with e | e <;> omega
          replace ow3 := ow3.grown hgr (by simp only [ne_eq, Option.some.injEq]; omega)
          replace hcur : Below wc.heap.size wc W7 := hcur.grown hgr hge (fun k hk => by injection hk with hk; omega)
          clear hgr hge
          refine hK.out _ _ trivial (fun _ => ?_)
          clear hK K hor7
          try simp only [Act.put, List.setIfInBounds_toArray, List.set_cons_zero, List.set_cons_succ]
          have HREL := Lib.hid (shop_rel HS.out hcur ow3 ow7 hqq hql hq1l hwg3 hwg7)
          have z0 : W7.cell? ⟨q, 0, none⟩ = some (.slice A N c) := (hcur.cell (p := ⟨q, 0, none⟩) hql).trans x0
          have z1 : (W7.setCell ⟨q, 0, none⟩ (.slice (some ⟨g3, 0, none⟩) N k3)).cell? ⟨q, 1, none⟩ = some (.slice A' M c') := HREL.out.2.1
          have f0 : W7.frozen? ⟨q, 0, none⟩ = false := HREL.out.2.2.1
          have f1 : (W7.setCell ⟨q, 0, none⟩ (.slice (some ⟨g3, 0, none⟩) N k3)).frozen? ⟨q, 1, none⟩ = false := HREL.out.2.2.2
          refine wpAnyH_ready (rs := [9]) (by kernel_rfl) (by simp) ?_
          refine AllReadyH.cons (i := 9) rfl (fun K hK => ?_) AllReadyH.nil
          go_simp
          refine hK.out _ _ trivial (fun _ => ?_)
          clear hK K
          try simp only [Act.put, List.setIfInBounds_toArray, List.set_cons_zero, List.set_cons_succ]
          refine wpAnyH_take (i := 10) (oi := { dst := some 28, op := Op.fieldAddr 57 (Operand.tmp 1) 1, type := 0, pos := "law.go:194", after := #[{ on := 0, ground := Ground.phase }, { on := 1, ground := Ground.phase }, { on := 2, ground := Ground.phase }, { on := 3, ground := Ground.phase }, { on := 4, ground := Ground.phase }, { on := 5, ground := Ground.phase }, { on := 6, ground := Ground.phase }, { on := 7, ground := Ground.phase }, { on := 8, ground := Ground.phase }, { on := 9, ground := Ground.phase }], guard := none }) (v := ?vq78) rfl (by kernel_rfl) (by kernel_rfl) (by kernel_rfl) (fun _ _ _ h => h) (Or.inl ⟨by rfl, ?yq78⟩) trivial ?rq78
          case yq78 => (intro w hSw; go_simp; (try with_reducible rfl))
          try simp only [Act.put, List.setIfInBounds_toArray, List.set_cons_zero, List.set_cons_succ]
          refine wpAnyH_ready (rs := [11]) (by kernel_rfl) (by simp) ?_
          refine AllReadyH.cons (i := 11) rfl (fun K hK => ?_) AllReadyH.nil
          go_simp
          refine hK.out _ _ trivial (fun _ => ?_)
          clear hK K
          refine wpAnyH_done (by kernel_rfl) ?_ _
          go_wp2_with (fail)
          go_meet
          case rel => exact ⟨_, _, _, _, HREL.out.1⟩
         exact AllReadyH.nil
        exact AllReadyH.nil
       exact AllReadyH.nil
      exact AllReadyH.nil
     refine AllReadyH.cons (o := { dst := some 23, op := Op.buildSlice 55 0 #[], type := 55, pos := "law.go:194", after := #[], guard := none }) rfl (fun K hK => ?_) ?_
     ·
      go_simp
      have hb4 : Blk 66 (V.alloc (.cells #[] 66)) V.heap.size [] := Blk.new V 66 []
      have hge4 : wc.heap.size ≤ V.heap.size := hcur.size
      replace hcur := hcur.alloc hcur.size (.cells #[] 66)
      refine hK.out _ _ trivial (fun _ => ?_)
      clear hK K
      generalize V.heap.size = h4 at *
      generalize V.alloc (.cells #[] 66) = Vz4 at *
      try simp only [Act.put, List.setIfInBounds_toArray, List.set_cons_zero, List.set_cons_succ]
      refine wpAnyH_ready (rs := [0, 2]) (by kernel_rfl) (by simp) ?_
      refine AllReadyH.cons (o := { dst := some 19, op := Op.buildSlice 54 0 #[], type := 54, pos := "law.go:194", after := #[], guard := none }) rfl (fun K hK => ?_) ?_
      ·
       go_simp
       have hb0 : Blk 68 (Vz4.alloc (.cells #[] 68)) Vz4.heap.size [] := Blk.new Vz4 68 []
       have hge0 : wc.heap.size ≤ Vz4.heap.size := hcur.size
       have hlo : h4 < Vz4.heap.size := hb4.lt
       replace hb4 := hb4.alloc (.cells #[] 68)
       replace hcur := hcur.alloc hcur.size (.cells #[] 68)
       refine hK.out _ _ trivial (fun _ => ?_)
       clear hK K
       generalize Vz4.heap.size = h0 at *
       generalize Vz4.alloc (.cells #[] 68) = Vz4z0 at *
       try simp only [Act.put, List.setIfInBounds_toArray, List.set_cons_zero, List.set_cons_succ]
       have hne : h0 ≠ h4 := Nat.ne_of_gt hlo
       refine wpAnyH_ready (rs := [2]) (by kernel_rfl) (by simp) ?_
       refine AllReadyH.cons (o := { dst := some 21, op := Op.load 54 (Operand.tmp 20), type := 54, pos := "law.go:194", after := #[{ on := 1, ground := Ground.data }], guard := none }) rfl (fun K hK => ?_) ?_
       ·
        have xc : Vz4z0.cell? ⟨q, 0, none⟩ = some (.slice A N c) := (hcur.cell (p := ⟨q, 0, none⟩) hql).trans x0
        go_simp
        refine hK.out _ _ trivial (fun _ => ?_)
        clear hK K xc
        try simp only [Act.put, List.setIfInBounds_toArray, List.set_cons_zero, List.set_cons_succ]
        refine wpAnyH_ready (rs := [3]) (by kernel_rfl) (by simp) ?_
        refine AllReadyH.cons (o := { dst := some 22, op := Op.call { callee := Callee.builtin Builtin.append, args := #[Operand.tmp 19, Operand.tmp 21], argTypes := #[54, 54] }, type := 54, pos := "law.go:194", after := #[{ on := 0, ground := Ground.data }, { on := 2, ground := Ground.data }], guard := none }) rfl (fun K hK => ?_) ?_
        ·
         have hl4 : h4 < Vz4z0.heap.size := hb4.lt
         have hl0 : h0 < Vz4z0.heap.size := hb0.lt
         refine step_app rfl (.tmp 19) (.tmp 21) 54 rfl 68 i0 _ Try.underlying54 hi0 hz0 hz1 hz2 rfl h0 rfl hb0 A N c (jc l1) rfl HNC.out HL1.out (HJ.out.keep hcur) HON.out (Nat.le_trans hN66 (by omega)) (fun g3 k3 W3 hor3 hle3 hmx3 ow3 hgr => ?_)
         have hge : wc.heap.size ≤ Vz4z0.heap.size := hcur.size
         have hwg3 : wc.heap.size ≤ g3 := by rcases hor3 with e | e <;> omega
         replace hb4 := hb4.grown hgr (by simp only [ne_eq, Option.some.injEq]; omega)
         have hne3 : g3 ≠ h4 := by rcases hor3 with e | e <;> omega
         replace hcur : Below wc.heap.size wc W3 := hcur.grown hgr hge (fun k hk => by injection hk with hk; omega)
         clear hgr hge
         refine hK.out _ _ trivial (fun _ => ?_)
         clear hK K hor3
         try simp only [Act.put, List.setIfInBounds_toArray, List.set_cons_zero, List.set_cons_succ]
         refine wpAnyH_take (i := 8) (oi := { dst := some 27, op := Op.fieldAddr 57 (Operand.tmp 1) 0, type := 0, pos := "law.go:194", after := #[{ on := 0, ground := Ground.phase }, { on := 1, ground := Ground.phase }, { on := 2, ground := Ground.phase }, { on := 3, ground := Ground.phase }, { on := 4, ground := Ground.textOnly Departure.lateStores }, { on := 5, ground := Ground.phase }, { on := 6, ground := Ground.phase }, { on := 7, ground := Ground.textOnly Departure.lateStoresUnsure }], guard := none }) (v := ?vq79) rfl (by kernel_rfl) (by kernel_rfl) (by kernel_rfl) (fun _ _ _ h => h) (Or.inl ⟨by rfl, ?yq79⟩) trivial ?rq79
         case yq79 => (intro w hSw; go_simp; (try with_reducible rfl))
         try simp only [Act.put, List.setIfInBounds_toArray, List.set_cons_zero, List.set_cons_succ]
         refine wpAnyH_ready (rs := [7]) (by kernel_rfl) (by simp) ?_
         refine AllReadyH.cons (o := { dst := some 26, op := Op.call { callee := Callee.builtin Builtin.append, args := #[Operand.tmp 23, Operand.tmp 25], argTypes := #[55, 55] }, type := 55, pos := "law.go:194", after := #[{ on := 4, ground := Ground.data }, { on := 6, ground := Ground.data }, { on := 3, ground := Ground.chain }], guard := none }) rfl (fun K hK => ?_) ?_
         ·
          refine step_app rfl (.tmp 23) (.tmp 25) 55 rfl 66 i1 _ Try.underlying55 hj0 hj1 hj2 hj3 rfl h4 rfl hb4 A' M c' (jc l2) rfl HMC.out HL2.out (HQ.out.keep hcur) HON2.out (Nat.le_trans hM66 (by omega)) (fun g7 k7 W7 hor7 hle7 hmx7 ow7 hgr => ?_)
          have hge : wc.heap.size ≤ W3.heap.size := hcur.size
          have hwg7 : wc.heap.size ≤ g7 := by rcases hor7 with e | e <;> omega
          replace ow3 := ow3.grown hgr (by simp only [ne_eq, Option.some.injEq]; omega)
          replace hcur : Below wc.heap.size wc W7 := hcur.grown hgr hge (fun k hk => by injection hk with hk; omega)
          clear hgr hge
          refine hK.out _ _ trivial (fun _ => ?_)
          clear hK K hor7
          try simp only [Act.put, List.setIfInBounds_toArray, List.set_cons_zero, List.set_cons_succ]
          have HREL := Lib.hid (shop_rel HS.out hcur ow3 ow7 hqq hql hq1l hwg3 hwg7)
          have z0 : W7.cell? ⟨q, 0, none⟩ = some (.slice A N c) := (hcur.cell (p := ⟨q, 0, none⟩) hql).trans x0
          have z1 : (W7.setCell ⟨q, 0, none⟩ (.slice (some ⟨g3, 0, none⟩) N k3)).cell? ⟨q, 1, none⟩ = some (.slice A' M c') := HREL.out.2.1
          have f0 : W7.frozen? ⟨q, 0, none⟩ = false := HREL.out.2.2.1
          have f1 : (W7.setCell ⟨q, 0, none⟩ (.slice (some ⟨g3, 0, none⟩) N k3)).frozen? ⟨q, 1, none⟩ = false := HREL.out.2.2.2
          refine wpAnyH_ready (rs := [9]) (by kernel_rfl) (by simp) ?_
          refine AllReadyH.cons (i := 9) rfl (fun K hK => ?_) AllReadyH.nil
          go_simp
          refine hK.out _ _ trivial (fun _ => ?_)
          clear hK K
          try simp only [Act.put, List.setIfInBounds_toArray, List.set_cons_zero, List.set_cons_succ]
          refine wpAnyH_take (i := 10) (oi := { dst := some 28, op := Op.fieldAddr 57 (Operand.tmp 1) 1, type := 0, pos := "law.go:194", after := #[{ on := 0, ground := Ground.phase }, { on := 1, ground := Ground.phase }, { on := 2, ground := Ground.phase }, { on := 3, ground := Ground.phase }, { on := 4, ground := Ground.phase }, { on := 5, ground := Ground.phase }, { on := 6, ground := Ground.phase }, { on := 7, ground := Ground.phase }, { on := 8, ground := Ground.phase }, { on := 9, ground := Ground.phase }], guard := none }) (v := ?vq80) rfl (by kernel_rfl) (by kernel_rfl) (by kernel_rfl) (fun _ _ _ h => h) (Or.inl ⟨by rfl, ?yq80⟩) trivial ?rq80
          case yq80 => (intro w hSw; go_simp; (try with_reducible rfl))
          try simp only [Act.put, List.setIfInBounds_toArray, List.set_cons_zero, List.set_cons_succ]
          refine wpAnyH_ready (rs := [11]) (by kernel_rfl) (by simp) ?_
          refine AllReadyH.cons (i := 11) rfl (fun K hK => ?_) AllReadyH.nil
          go_simp
          refine hK.out _ _ trivial (fun _ => ?_)
          clear hK K
          refine wpAnyH_done (by kernel_rfl) ?_ _
          go_wp2_with (fail)
          go_meet
          case rel => exact ⟨_, _, _, _, HREL.out.1⟩
         exact AllReadyH.nil
        exact AllReadyH.nil
       exact AllReadyH.nil
      refine AllReadyH.cons (o := { dst := some 21, op := Op.load 54 (Operand.tmp 20), type := 54, pos := "law.go:194", after := #[{ on := 1, ground := Ground.data }], guard := none }) rfl (fun K hK => ?_) ?_
      ·
       have xc : Vz4.cell? ⟨q, 0, none⟩ = some (.slice A N c) := (hcur.cell (p := ⟨q, 0, none⟩) hql).trans x0
       go_simp
       refine hK.out _ _ trivial (fun _ => ?_)
       clear hK K xc
       try simp only [Act.put, List.setIfInBounds_toArray, List.set_cons_zero, List.set_cons_succ]
       refine wpAnyH_ready (rs := [0]) (by kernel_rfl) (by simp) ?_
       refine AllReadyH.cons (o := { dst := some 19, op := Op.buildSlice 54 0 #[], type := 54, pos := "law.go:194", after := #[], guard := none }) rfl (fun K hK => ?_) ?_
       ·
        go_simp
        have hb0 : Blk 68 (Vz4.alloc (.cells #[] 68)) Vz4.heap.size [] := Blk.new Vz4 68 []
        have hge0 : wc.heap.size ≤ Vz4.heap.size := hcur.size
        have hlo : h4 < Vz4.heap.size := hb4.lt
        replace hb4 := hb4.alloc (.cells #[] 68)
        replace hcur := hcur.alloc hcur.size (.cells #[] 68)
        refine hK.out _ _ trivial (fun _ => ?_)
        clear hK K
        generalize Vz4.heap.size = h0 at *
        generalize Vz4.alloc (.cells #[] 68) = Vz4z0 at *
        try simp only [Act.put, List.setIfInBounds_toArray, List.set_cons_zero, List.set_cons_succ]
        have hne : h0 ≠ h4 := Nat.ne_of_gt hlo
        refine wpAnyH_ready (rs := [3]) (by kernel_rfl) (by simp) ?_
        refine AllReadyH.cons (o := { dst := some 22, op := Op.call { callee := Callee.builtin Builtin.append, args := #[Operand.tmp 19, Operand.tmp 21], argTypes := #[54, 54] }, type := 54, pos := "law.go:194", after := #[{ on := 0, ground := Ground.data }, { on := 2, ground := Ground.data }], guard := none }) rfl (fun K hK => ?_) ?_
        ·
         have hl4 : h4 < Vz4z0.heap.size := hb4.lt
         have hl0 : h0 < Vz4z0.heap.size := hb0.lt
         refine step_app rfl (.tmp 19) (.tmp 21) 54 rfl 68 i0 _ Try.underlying54 hi0 hz0 hz1 hz2 rfl h0 rfl hb0 A N c (jc l1) rfl HNC.out HL1.out (HJ.out.keep hcur) HON.out (Nat.le_trans hN66 (by omega)) (fun g3 k3 W3 hor3 hle3 hmx3 ow3 hgr => ?_)
         have hge : wc.heap.size ≤ Vz4z0.heap.size := hcur.size
         have hwg3 : wc.heap.size ≤ g3 := by rcases hor3 with e | e <;> omega
         replace hb4 := hb4.grown hgr (by simp only [ne_eq, Option.some.injEq]; omega)
         have hne3 : g3 ≠ h4 := by rcases hor3 with e | e <;> omega
         replace hcur : Below wc.heap.size wc W3 := hcur.grown hgr hge (fun k hk => by injection hk with hk; omega)
         clear hgr hge
         refine hK.out _ _ trivial (fun _ => ?_)
         clear hK K hor3
         try simp only [Act.put, List.setIfInBounds_toArray, List.set_cons_zero, List.set_cons_succ]
         refine wpAnyH_take (i := 8) (oi := { dst := some 27, op := Op.fieldAddr 57 (Operand.tmp 1) 0, type := 0, pos := "law.go:194", after := #[{ on := 0, ground := Ground.phase }, { on := 1, ground := Ground.phase }, { on := 2, ground := Ground.phase }, { on := 3, ground := Ground.phase }, { on := 4, ground := Ground.textOnly Departure.lateStores }, { on := 5, ground := Ground.phase }, { on := 6, ground := Ground.phase }, { on := 7, ground := Ground.textOnly Departure.lateStoresUnsure }], guard := none }) (v := ?vq81) rfl (by kernel_rfl) (by kernel_rfl) (by kernel_rfl) (fun _ _ _ h => h) (Or.inl ⟨by rfl, ?yq81⟩) trivial ?rq81
         case yq81 => (intro w hSw; go_simp; (try with_reducible rfl))
         try simp only [Act.put, List.setIfInBounds_toArray, List.set_cons_zero, List.set_cons_succ]
         refine wpAnyH_ready (rs := [7]) (by kernel_rfl) (by simp) ?_
         refine AllReadyH.cons (o := { dst := some 26, op := Op.call { callee := Callee.builtin Builtin.append, args := #[Operand.tmp 23, Operand.tmp 25], argTypes := #[55, 55] }, type := 55, pos := "law.go:194", after := #[{ on := 4, ground := Ground.data }, { on := 6, ground := Ground.data }, { on := 3, ground := Ground.chain }], guard := none }) rfl (fun K hK => ?_) ?_
         ·
          refine step_app rfl (.tmp 23) (.tmp 25) 55 rfl 66 i1 _ Try.underlying55 hj0 hj1 hj2 hj3 rfl h4 rfl hb4 A' M c' (jc l2) rfl HMC.out HL2.out (HQ.out.keep hcur) HON2.out (Nat.le_trans hM66 (by omega)) (fun g7 k7 W7 hor7 hle7 hmx7 ow7 hgr => ?_)
          have hge : wc.heap.size ≤ W3.heap.size := hcur.size
          have hwg7 : wc.heap.size ≤ g7 := by rcases hor7 with e | e <;> omega
          replace ow3 := ow3.grown hgr (by simp only [ne_eq, Option.some.injEq]; omega)
          replace hcur : Below wc.heap.size wc W7 := hcur.grown hgr hge (fun k hk => by injection hk with hk; omega)
          clear hgr hge
          refine hK.out _ _ trivial (fun _ => ?_)
          clear hK K hor7
          try simp only [Act.put, List.setIfInBounds_toArray, List.set_cons_zero, List.set_cons_succ]
          have HREL := Lib.hid (shop_rel HS.out hcur ow3 ow7 hqq hql hq1l hwg3 hwg7)
          have z0 : W7.cell? ⟨q, 0, none⟩ = some (.slice A N c) := (hcur.cell (p := ⟨q, 0, none⟩) hql).trans x0
          have z1 : (W7.setCell ⟨q, 0, none⟩ (.slice (some ⟨g3, 0, none⟩) N k3)).cell? ⟨q, 1, none⟩ = some (.slice A' M c') := HREL.out.2.1
          have f0 : W7.frozen? ⟨q, 0, none⟩ = false := HREL.out.2.2.1
          have f1 : (W7.setCell ⟨q, 0, none⟩ (.slice (some ⟨g3, 0, none⟩) N k3)).frozen? ⟨q, 1, none⟩ = false := HREL.out.2.2.2
          refine wpAnyH_ready (rs := [9]) (by kernel_rfl) (by simp) ?_
          refine AllReadyH.cons (i := 9) rfl (fun K hK => ?_) AllReadyH.nil
          go_simp
          refine hK.out _ _ trivial (fun _ => ?_)
          clear hK K
          try simp only [Act.put, List.setIfInBounds_toArray, List.set_cons_zero, List.set_cons_succ]
          refine wpAnyH_take (i := 10) (oi := { dst := some 28, op := Op.fieldAddr 57 (Operand.tmp 1) 1, type := 0, pos := "law.go:194", after := #[{ on := 0, ground := Ground.phase }, { on := 1, ground := Ground.phase }, { on := 2, ground := Ground.phase }, { on := 3, ground := Ground.phase }, { on := 4, ground := Ground.phase }, { on := 5, ground := Ground.phase }, { on := 6, ground := Ground.phase }, { on := 7, ground := Ground.phase }, { on := 8, ground := Ground.phase }, { on := 9, ground := Ground.phase }], guard := none }) (v := ?vq82) rfl (by kernel_rfl) (by kernel_rfl) (by kernel_rfl) (fun _ _ _ h => h) (Or.inl ⟨by rfl, ?yq82⟩) trivial ?rq82
          case yq82 => (intro w hSw; go_simp; (try with_reducible rfl))
          try simp only [Act.put, List.setIfInBounds_toArray, List.set_cons_zero, List.set_cons_succ]
          refine wpAnyH_ready (rs := [11]) (by kernel_rfl) (by simp) ?_
          refine AllReadyH.cons (i := 11) rfl (fun K hK => ?_) AllReadyH.nil
          go_simp
          refine hK.out _ _ trivial (fun _ => ?_)
          clear hK K
          refine wpAnyH_done (by kernel_rfl) ?_ _
          go_wp2_with (fail)
          go_meet
          case rel => exact ⟨_, _, _, _, HREL.out.1⟩
         exact AllReadyH.nil
        exact AllReadyH.nil
       exact AllReadyH.nil
      exact AllReadyH.nil
     exact AllReadyH.nil
    exact AllReadyH.nil
  case rest =>
  obtain ⟨g, k, g', k', hsp, hj1, hj2, hg1, hg2⟩ := hcut
  have HSP := Lib.hid hsp
  have HJ1 := Lib.hid hj1
  have HJ2 := Lib.hid hj2
  have HN9 := Lib.hid HN.out
  obtain ⟨W9, hW9⟩ : ∃ W, W = wc := ⟨_, rfl⟩
  subst hW9
  have x0 : W9.cell? ⟨q, 0, none⟩ = some (.slice (some ⟨g, 0, none⟩) N k) := HSP.out.bx.cell 0
  have x1 : W9.cell? ⟨q, 1, none⟩ = some (.slice (some ⟨g', 0, none⟩) M k') := HSP.out.bx.cell 1
  have x2 : W9.cell? ⟨q, 2, none⟩ = some (.int .i64 bend) := HSP.out.bx.cell 2
  have x3 : W9.cell? ⟨q, 3, none⟩ = some (.int .i64 trim) := HSP.out.bx.cell 3
  have y0 : W9.cell? ⟨q1, 0, none⟩ = some (.slice none 0 0) := HSP.out.rv.cell 0
  have y1 : W9.cell? ⟨q1, 1, none⟩ = some (.slice none 0 0) := HSP.out.rv.cell 1
  have y2 : W9.cell? ⟨q1, 2, none⟩ = some (.int .i64 0) := HSP.out.rv.cell 2
  have y3 : W9.cell? ⟨q1, 3, none⟩ = some (.int .i64 0) := HSP.out.rv.cell 3
  have yf := HSP.out.rv.frozen
  clear hsp hj1 hj2 HS
  go_wp2_with (fail)
  obtain ⟨d', hd, hmm⟩ := Option.map_eq_some_iff.1 und57
  have hF1 : Blk 57 ((((W9.setCell ⟨q1, 0, none⟩ (.slice (some ⟨g, 0, none⟩) N k)).setCell ⟨q1, 1, none⟩ (.slice (some ⟨g', 0, none⟩) M k')).setCell ⟨q1, 2, none⟩ (.int .i64 bend)).setCell ⟨q1, 3, none⟩ (.int .i64 trim)) q1 [.slice (some ⟨g, 0, none⟩) N k, .slice (some ⟨g', 0, none⟩) M k', .int .i64 bend, .int .i64 trim] := by
    have := (((HSP.out.rv.set 0 (.slice (some ⟨g, 0, none⟩) N k)).set 1 (.slice (some ⟨g', 0, none⟩) M k')).set 2 (.int .i64 bend)).set 3 (.int .i64 trim)
    simpa using this
  have hwq : w.heap.size ≤ q1 := Nat.le_trans HSP.out.far.1 (Nat.le_of_lt hqq)
  refine bodyPost_ret (results_cell_row rfl _ _ _ _ _ _ d' rfl hF1 hd ?_ size57) rfl ⟨below_set (below_set (below_set (below_set HSP.out.bel hwq _) hwq _) hwq _) hwq _, g, k, g', k', by rw [← HN9.out, ← HM.out], ?_, ?_⟩
  · cases d' <;> first | rfl | exact absurd hmm (by simp)
  · exact jat_set4 HJ1.out (Nat.ne_of_gt hg1) _ _ _ _
  · exact jat_set4 HJ2.out (Nat.ne_of_gt hg2) _ _ _ _
end Go.Proofs.Ytncmfjncdhhjoaa
