/- Play of acts that are keys and ticks. -/
import Derived.Test.YtpaemlkikkcjiaaWPlay
namespace Go.Proofs.Ytpaemlkikkcjiaa
open Go.RowKit

/-- An act that is a key's or ticks, and in its range. -/
def GoodA (m : Mk) (a : Ac) : Prop := (a.kind = 1 ∧ 0 ≤ a.key ∧ a.key < (m.K : Int) ∧ 0 ≤ a.depth ∧ a.depth ≤ 1000) ∨ (a.kind = 2 ∧ 0 ≤ a.depth ∧ a.depth ≤ 10000)
def doG (m : Mk) (S : Ms) (a : Ac) : Ms × List Mo := if a.kind = 1 then (setTg S a.key.toNat a.depth, []) else runF m a.depth.toNat S
def ac0 : Ac := ⟨0, 0, 0, 0⟩
/-- After the first i acts. -/
def actsG (m : Mk) (S : Ms) (l : List Ac) : Nat → Ms × List Mo
  | 0 => (S, [])
  | i + 1 => ((doG m (actsG m S l i).1 (l.getD i ac0)).1, (actsG m S l i).2 ++ (doG m (actsG m S l i).1 (l.getD i ac0)).2)
def acL (l : List Ac) : List Value := l.flatMap acC
theorem acC_len (a : Ac) : (acC a).length = 4 := rfl
theorem acL_len (l : List Ac) : (acL l).length = l.length * 4 := flat_len acC_len l
theorem ac_cells {w : World} {A : Option Addr} {l : List Ac} (h : Vals w A (acL l)) {i : Nat} {x : Ac} (hx : l[i]? = some x) : ∃ g off, A = some ⟨g, off, none⟩ ∧ g < w.heap.size ∧
    w.cell? ⟨g, off + i * 4, none⟩ = some (.int .i64 x.kind) ∧ w.cell? ⟨g, off + i * 4 + 1, none⟩ = some (.int .i64 x.key) ∧ w.cell? ⟨g, off + i * 4 + 2, none⟩ = some (.int .i64 x.depth) ∧ w.cell? ⟨g, off + i * 4 + 3, none⟩ = some (.int .i64 x.reg) := by
  have hlt : i < l.length := (List.getElem?_eq_some_iff.1 hx).1
  obtain ⟨g, off, e, hg, hc⟩ := h (by rw [acL_len]; omega)
  have hat : ∀ j, j < 4 → (acL l)[i * 4 + j]? = (acC x)[j]? := fun j hj => flat_at acC_len hx hj
  refine ⟨g, off, e, hg, hc _ _ (hat 0 (by omega)), ?_, ?_, ?_⟩
  · rw [Nat.add_assoc]; exact hc _ _ (hat 1 (by omega))
  · rw [Nat.add_assoc]; exact hc _ _ (hat 2 (by omega))
  · rw [Nat.add_assoc]; exact hc _ _ (hat 3 (by omega))
theorem setTg_ok {m : Mk} {S : Ms} (h : OkMs m S) {k : Nat} {x : Int} (hx : 0 ≤ x ∧ x ≤ 1000) : OkMs m (setTg S k x) := by
  refine ⟨h.ht, fun a ha => ?_⟩
  simp only [setTg]
  split
  · exact hx
  · exact h.tg a ha
theorem doG_ok {m : Mk} (hm : OkMk m) {S : Ms} (h : OkMs m S) {a : Ac} (ha : GoodA m a) : OkMs m (doG m S a).1 := by
  unfold doG
  rcases ha with ⟨h1, h2, h3, h4, h5⟩ | ⟨h1, h2, h3⟩
  · rw [if_pos h1]; exact setTg_ok h ⟨h4, h5⟩
  · rw [if_neg (by omega)]; exact run_ok hm h _
theorem doG_tk {m : Mk} {S : Ms} {a : Ac} (ha : GoodA m a) : S.tk ≤ (doG m S a).1.tk ∧ (doG m S a).1.tk ≤ S.tk + 10000 := by
  unfold doG
  rcases ha with ⟨h1, _⟩ | ⟨h1, h2, h3⟩
  · rw [if_pos h1]; simp only [setTg]; omega
  · rw [if_neg (by omega), run_tk]; omega
theorem doG_len {m : Mk} (hm : OkMk m) {S : Ms} {a : Ac} (ha : GoodA m a) : (doG m S a).2.length ≤ 7680000 := by
  unfold doG
  rcases ha with ⟨h1, _⟩ | ⟨h1, h2, h3⟩
  · rw [if_pos h1]; simp
  · rw [if_neg (by omega)]
    have := run_len hm S a.depth.toNat
    omega
theorem getD_of {α : Type} {l : List α} {i : Nat} {x d : α} (h : l[i]? = some x) : l.getD i d = x := by rw [List.getD_eq_getElem?_getD, h]; rfl
theorem actsG_ok {m : Mk} (hm : OkMk m) {S : Ms} (h : OkMs m S) {l : List Ac} (hl : ∀ a, a ∈ l → GoodA m a) (i : Nat) (hi : i ≤ l.length) :
    OkMs m (actsG m S l i).1 ∧ S.tk ≤ (actsG m S l i).1.tk ∧ (actsG m S l i).1.tk ≤ S.tk + 10000 * i ∧ (actsG m S l i).2.length ≤ 7680000 * i := by
  induction i with
  | zero => exact ⟨h, by simp [actsG], by simp [actsG], by simp [actsG]⟩
  | succ i ih =>
    obtain ⟨h1, h2, h3, h4⟩ := ih (by omega)
    have hx := List.getElem?_eq_getElem (l := l) (i := i) (by omega)
    have hg := hl _ (List.mem_of_getElem? hx)
    rw [← getD_of (d := ac0) hx] at hg
    have h5 := doG_tk (S := (actsG m S l i).1) hg
    have h6 := doG_len hm (S := (actsG m S l i).1) hg
    simp only [actsG, List.length_append]
    exact ⟨doG_ok hm h1 hg, by omega, by omega, by omega⟩

theorem do_good (K : Nat) (hO : OrderK K) (w : World) (p gl cl gr cr : Nat) (m : Mk) (S : Ms) (hM : MacM w p gl cl gr cr m S) (hm : OkMk m) (hS : OkMs m S) (htk : 0 ≤ S.tk ∧ S.tk ≤ 100000000000000) (a : Ac) (ha : GoodA m a)
    (hK : a.kind = 2 → ∀ j : Nat, (j : Int) < a.depth → (tickF m (runF m j S).1).2.length ≤ K) :
    Calls Try.prog 41 #[.pointer (some ⟨p, 0, none⟩), .agg #[.int .i64 a.kind, .int .i64 a.key, .int .i64 a.depth, .int .i64 a.reg]] w (DoPost w p gl cl gr cr m (doG m S a)) := by
  obtain ⟨kind, key, depth, reg⟩ := a
  rcases ha with ⟨h1, h2, h3, h4, h5⟩ | ⟨h1, h2, h3⟩
  · simp only at h1 h2 h3 h4 h5 ⊢
    subst h1
    obtain ⟨k, rfl⟩ : ∃ k : Nat, key = (k : Int) := ⟨key.toNat, by omega⟩
    have h := do_key w p gl cl gr cr k depth reg m S hM hm (by omega) ⟨h4, h5⟩
    refine h.mono ?_
    rintro e w' ⟨rfl, hm', hc⟩
    have e2 : doG m S ⟨1, (k : Int), depth, reg⟩ = (setTg S k depth, []) := by simp [doG]
    rw [e2]
    exact ⟨_, rfl, own_nil _ _ _ _, hm', hc.mono (fun x hx => by simp at hx; simp [hx])⟩
  · simp only at h1 h2 h3 hK ⊢
    subst h1
    obtain ⟨t, rfl⟩ : ∃ t : Nat, depth = (t : Int) := ⟨depth.toNat, by omega⟩
    have h := do_ticks K hO w p gl cl gr cr t key reg m S hM hm hS htk (by omega) (fun i hi => hK rfl i (by omega))
    have e2 : doG m S ⟨2, key, (t : Int), reg⟩ = runF m t S := by simp [doG]
    rw [e2]
    exact h
set_option maxHeartbeats 4000000 in
set_option maxRecDepth 100000 in
theorem play_good (K : Nat) (hO : OrderK K) (k n c c' L : Nat) (sp : Int) (ad : Addr) (A' : Option Addr) (rs : List Rg) (l : List Ac) (w : World) (hA : Vals w (some ad) (rgL rs)) (hn : n = rs.length) (hA' : Vals w A' (acL l)) (hL : L = l.length) (hL2 : L ≤ 1000)
    (hb : newB (k : Int) sp rs = true) (hl : ∀ a, a ∈ l → GoodA (mkOf k sp rs) a)
    (hK : ∀ (i j : Nat), i < l.length → (l.getD i ac0).kind = 2 → (j : Int) < (l.getD i ac0).depth → (tickF (mkOf k sp rs) (runF (mkOf k sp rs) j (actsG (mkOf k sp rs) (msOf rs) l i).1).1).2.length ≤ K) :
    Calls Try.prog 44 #[.int .i64 (k : Int), .int .i64 sp, .slice (some ad) n c, .slice A' L c'] w fun e w' => ∃ v, e = .returned (.tuple #[v, .int .i64 0]) ∧
      w'.ownsRow w.heap.size 67 4 v (actsG (mkOf k sp rs) (msOf rs) l l.length).2.length (evL (actsG (mkOf k sp rs) (msOf rs) l l.length).2) ∧ Below w.heap.size w w' := by
  have hnew := new_ok k n c sp ad rs w hA hn hb
  obtain ⟨i0, hi, hz0, hz1, hz2⟩ := info_parts infoEv
  have HNEW := Lib.hid hnew
  have HA' := Lib.hid hA'
  have HL := Lib.hid hL
  have HG := Lib.hid hl
  have HKK := Lib.hid hK
  have HB := Lib.hid hb
  have hlim : ¬ (1000 < L) := by omega
  have hlim2 : ¬ ((1000 : Int) < (L : Int)) := by omega
  clear hnew hA hn hA' hL hl hK hb
  go_enter Try.func44, Try.ntmps44
  go_wp2_with (go_at_call 38
               refine (HNEW.out).mono ?_
               rintro e w1 ⟨hb1, ⟨hf, _⟩ | ⟨kk, p, gl, cl, gr, cr, _, hkk, hok, rfl, hp, hgl, hgr, hM⟩⟩
               focus (rw [HB.out] at hf; cases hf))
  have hkk2 : kk = k := by omega
  subst hkk2
  have HM := Lib.hid hM
  have HOK := Lib.hid hok
  clear hM hok hkk
  go_loopw [12, 14, 15, 16, 32] (fun v _ _ _ t wr => ∃ i : Nat, i ≤ L ∧ t = .int .i64 (i : Int) ∧ wr.ownsRow w.heap.size 67 4 v (actsG (mkOf kk sp rs) (msOf rs) l i).2.length (evL (actsG (mkOf kk sp rs) (msOf rs) l i).2) ∧
    MacM wr p gl cl gr cr (mkOf kk sp rs) (actsG (mkOf kk sp rs) (msOf rs) l i).1 ∧ Below w.heap.size w wr ∧ (∀ b, v.ownBlock = some b → b ≠ p ∧ b ≠ gl ∧ b ≠ gr)) (fun _ _ _ _ t _ => L - (intOf t).toNat)
  case atStart => exact ⟨0, Nat.zero_le _, rfl, own_nil _ _ _ _, HM.out, hb1, fun b hb => by cases hb⟩
  case round =>
    clear HM hb1
    obtain ⟨i, hi', rfl, ho, hM, hb, hap⟩ := hrel
    by_cases hlt : i < L
    · obtain ⟨a, ha⟩ : ∃ a, l[i]? = some a := ⟨l[i]'(by have := HL.out; omega), List.getElem?_eq_getElem _⟩
      have hga := HG.out a (List.mem_of_getElem? ha)
      have hac := actsG_ok HOK.out (msOf_ok kk sp rs) HG.out i (by have := HL.out; omega)
      have hkk := HKK.out i
      rw [getD_of ha] at hkk
      have hsu : actsG (mkOf kk sp rs) (msOf rs) l (i + 1) = ((doG (mkOf kk sp rs) (actsG (mkOf kk sp rs) (msOf rs) l i).1 a).1, (actsG (mkOf kk sp rs) (msOf rs) l i).2 ++ (doG (mkOf kk sp rs) (actsG (mkOf kk sp rs) (msOf rs) l i).1 a).2) := by
        simp only [actsG, getD_of ha]
      have hil : i < l.length := by have := HL.out; omega
      have htk0 : (msOf rs).tk = 0 := rfl
      generalize hs2 : actsG (mkOf kk sp rs) (msOf rs) l i = s2 at *
      have hdl := doG_len HOK.out (S := s2.1) hga
      have hdo := fun W (mm : MacM W p gl cl gr cr (mkOf kk sp rs) s2.1) => do_good K hO W p gl cl gr cr (mkOf kk sp rs) s2.1 mm HOK.out hac.1 (by omega) a hga (fun h2 j hj => hkk j hil h2 hj)
      generalize hs3 : doG (mkOf kk sp rs) s2.1 a = s3 at *
      obtain ⟨g, off, rfl, hg, m0, m1, m2, m3⟩ := ac_cells ((HA'.out).keep hb) ha
      have HSU := Lib.hid hsu
      have HDO := Lib.hid hdo
      have HDL := Lib.hid hdl
      have HAC := Lib.hid hac.2.2.2
      have hi10 : i ≤ 1000 := by omega
      have hbb := below_new wr (.cells #[.int .i64 a.kind, .int .i64 a.key, .int .i64 a.depth, .int .i64 a.reg] 59)
      have hM2 := hM.keep hbb
      have ho2 := (Chg.of_below (L := []) hbb).own ho (fun b _ => by simp)
      have hb2 := below_on hb hb.size hbb
      have hq : Blk 59 (wr.alloc (.cells #[.int .i64 a.kind, .int .i64 a.key, .int .i64 a.depth, .int .i64 a.reg] 59)) wr.heap.size [.int .i64 a.kind, .int .i64 a.key, .int .i64 a.depth, .int .i64 a.reg] := Blk.new wr 59 [_, _, _, _]
      have hsw := hb.size
      have HO := Lib.hid ho2
      have HM2 := Lib.hid hM2
      have HB2 := Lib.hid hb2
      clear hga hac hkk hsu hdo hs2 hs3 hdl ho hM hb hM2 ho2 hb2 ha hbb hil htk0
      go_upto_region 10 with (fail)
      clear m0 m1 m2 m3
      generalize wr.alloc (.cells #[.int .i64 a.kind, .int .i64 a.key, .int .i64 a.depth, .int .i64 a.reg] 59) = V at *
      generalize wr.heap.size = q at *
      have q0 : V.cell? ⟨q, 0, none⟩ = some (.int .i64 a.kind) := hq.cell 0
      have q1 : V.cell? ⟨q, 1, none⟩ = some (.int .i64 a.key) := hq.cell 1
      have q2 : V.cell? ⟨q, 2, none⟩ = some (.int .i64 a.depth) := hq.cell 2
      have q3 : V.cell? ⟨q, 3, none⟩ = some (.int .i64 a.reg) := hq.cell 3
      clear hq
      go_upto_region 13 with (go_at_call 41; refine (HDO.out _ HM2.out).mono ?_; rintro e w3 ⟨v3, rfl, hv3, hm3, hc3⟩)
      clear q0 q1 q2 q3
      have hO3 := hc3.own HO.out (fun b hb hm => by have := hap b hb; simp at hm; omega)
      have hb3 := HB2.out.trans (hc3.below (B := w.heap.size) HB2.out.size (fun x hx => by simp at hx; omega))
      have hvb : ∀ b, v3.ownBlock = some b → V.heap.size ≤ b ∧ b < w3.heap.size := own_lt hv3
      obtain ⟨A3, c3', rfl, hcap, hV3, hA3, _⟩ := own_shape hv3
      have hsz := hb3.size
      have HO3 := Lib.hid hO3
      have HV3 := Lib.hid hV3
      have HM3 := Lib.hid hm3
      have hmlt := HM2.out.lt
      have hmlt3 := hm3.lt
      clear hO3 hv3 hm3 hV3 hc3
      have fin : ∀ (v' : Value) (w4 : World), w4.ownsRow w.heap.size 67 4 v' (s2.2.length + s3.2.length) (evL s2.2 ++ evL s3.2) → Chg u12.ownBlock.toList w3 w4 → (∀ b, v'.ownBlock = some b → u12.ownBlock = some b ∨ w3.heap.size ≤ b) →
          w4.ownsRow w.heap.size 67 4 v' (actsG (mkOf kk sp rs) (msOf rs) l (i + 1)).2.length (evL (actsG (mkOf kk sp rs) (msOf rs) l (i + 1)).2) ∧ MacM w4 p gl cl gr cr (mkOf kk sp rs) (actsG (mkOf kk sp rs) (msOf rs) l (i + 1)).1 ∧ Below w.heap.size w w4 ∧
          (∀ b, v'.ownBlock = some b → b ≠ p ∧ b ≠ gl ∧ b ≠ gr) := by
        intro v' w4 h1 h2 h3
        rw [HSU.out]
        have hno : ∀ x, x ∈ u12.ownBlock.toList → w.heap.size ≤ x ∧ x ≠ p ∧ x ≠ gl ∧ x ≠ gr := fun x hx => by
          have hx' : u12.ownBlock = some x := by simpa using hx
          have := hap x hx'
          exact ⟨(own_lt HO.out x hx').1, this⟩
        refine ⟨?_, HM3.out.chg h2 ⟨fun h => (hno _ h).2.1 rfl, fun h => (hno _ h).2.2.1 rfl, fun h => (hno _ h).2.2.2 rfl⟩, hb3.trans (h2.below (B := w.heap.size) hsz (fun x hx => (hno x hx).1)), fun b hb => ?_⟩
        · simp only [List.length_append]
          rw [evL_append]
          exact h1
        · rcases h3 b hb with h4 | h4
          · exact hap b h4
          · omega
      have FIN := Lib.hid fin
      clear fin
      rcases A3 with _ | ad3
      · obtain ⟨hz, hcz⟩ := hA3 rfl
        subst hcz
        have he : evL s3.2 = [] := List.eq_nil_of_length_eq_zero (by rw [evL_len]; omega)
        have hfin := FIN.out u12 w3 (by rw [hz, he, List.append_nil]; exact HO3.out) (Chg.refl _ _) (fun b hb => .inl hb)
        have HF := Lib.hid hfin
        rw [hz]
        clear hfin hz he
        go_wp2_with (at_builtin; refine wpList_append_own_none rfl _ _ 55 rfl w.heap.size 67 i0 4 Try.underlying55 hi _ _ _ rfl HO3.out rfl ?_)
        go_roundw
        case rel => exact ⟨i + 1, by omega, by go_num, HF.out.1, HF.out.2.1, HF.out.2.2.1, HF.out.2.2.2⟩
        case measure => simp [intOf]; omega
      · have hn1 := HAC.out
        have hn2 := HDL.out
        have h4 : s2.2.length + s3.2.length ≤ maxLen := by unfold maxLen; omega
        have h5 : (s2.2.length + s3.2.length) * 32 ≤ 140737488355328 := by omega
        clear hn1 hn2
        go_wp2_with (at_builtin; refine wpList_append_own_at _ rfl _ _ 55 rfl w.heap.size 67 i0 zEv 4 32 Try.underlying55 hi hz0 hz1 hz2 rfl (by decide) _ _ _ rfl HO3.out ad3 s3.2.length c3' (evL s3.2) rfl (evL_len _) (vals_cells HV3.out) (evL_one _) h4 h5 hsz ?_)
        intro v' w4 hown hgr _ hat
        have c4 : Chg u12.ownBlock.toList w3 w4 := (Chg.refl _ w3).grown hgr (fun b hb => .inl (by rw [hb]; simp))
        have hfin := FIN.out v' w4 hown c4 (fun b hb => by
          rcases hat with h | h
          · left; rw [← h]; exact hb
          · right; rw [h] at hb; injection hb with hb; omega)
        have HF := Lib.hid hfin
        clear hown hgr hat c4 hfin
        go_wp2_with (fail)
        go_roundw
        case rel => exact ⟨i + 1, by omega, by go_num, HF.out.1, HF.out.2.1, HF.out.2.2.1, HF.out.2.2.2⟩
        case measure => simp [intOf]; omega
    · obtain rfl : i = L := by omega
      have hO2 := ho
      rw [HL.out] at hO2
      have HO := Lib.hid hO2
      clear ho hM hO2
      go_wp2
      go_ret2
      exact ⟨_, rfl, HO.out, hb⟩
end Go.Proofs.Ytpaemlkikkcjiaa
