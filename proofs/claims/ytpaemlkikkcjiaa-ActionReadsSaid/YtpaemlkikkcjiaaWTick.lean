/- runTick. -/
import Derived.Test.YtpaemlkikkcjiaaTkS
import Derived.StillTailTactics
import Derived.Deep.CutRange
namespace Go.Proofs.Ytpaemlkikkcjiaa
open Go.RowKit

def MoOk (x : Mo) : Prop := 0 ≤ x.num ∧ x.num ≤ 100000 ∧ 0 ≤ x.den ∧ x.den ≤ 100000
theorem mo_ok {tk kind key reg frm tu h : Int} (h1 : 0 ≤ frm ∧ frm ≤ 1000) (h2 : 0 ≤ tu ∧ tu ≤ 1000) (h3 : 0 ≤ h ∧ h ≤ 1000) : MoOk (mo tk kind key reg frm tu h) := by
  unfold MoOk mo dist
  simp only
  omega
theorem passN_ok {tk key reg frm tu pl re da : Int} {j : Jk} (h1 : 0 ≤ frm ∧ frm ≤ 1000) (h2 : 0 ≤ tu ∧ tu ≤ 1000) (hp : 0 ≤ pl ∧ pl ≤ 1000) (hr : 0 ≤ re ∧ re ≤ 1000) (hd : 0 ≤ da ∧ da ≤ 1000) : ∀ x, x ∈ passN tk key reg frm tu pl re da j → MoOk x := by
  intro x hx
  unfold passN n1 n2 n3 at hx
  simp only [List.mem_append] at hx
  rcases hx with (hx | hx) | hx
  · split at hx
    · simp at hx; subst hx; exact mo_ok h1 h2 hp
    · simp at hx
  · split at hx
    · simp at hx; subst hx; exact mo_ok h1 h2 hr
    · simp at hx
  · split at hx
    · simp at hx; subst hx; exact mo_ok h1 h2 hd
    · simp at hx
theorem regs_mo {m : Mk} (hm : OkMk m) {k : Nat} {frm tu : Int} (h1 : 0 ≤ frm ∧ frm ≤ 1000) (h2 : 0 ≤ tu ∧ tu ≤ 1000) {s : Ms × List Mo} (hs : ∀ x, x ∈ s.2 → MoOk x) (r : Nat) (hr : r ≤ m.N) : ∀ x, x ∈ (regsF m k frm tu r s).2 → MoOk x := by
  induction r with
  | zero => exact hs
  | succ r ih =>
    simp only [regsF]
    split
    · intro x hx
      rcases List.mem_append.1 hx with h | h
      · exact ih (by omega) x h
      · have := hm.reg r (by omega)
        exact passN_ok h1 h2 (by omega) (by omega) (by omega) x h
    · exact ih (by omega)
theorem keys_mo {m : Mk} (hm : OkMk m) {s : Ms × List Mo} (h : OkMs m s.1) (hs : ∀ x, x ∈ s.2 → MoOk x) (k : Nat) (hk : k ≤ m.K) : ∀ x, x ∈ (keysF m k s).2 → MoOk x := by
  induction k with
  | zero => exact hs
  | succ k ih =>
    have h1 := keys_ok hm h k (by omega)
    simp only [keysF, keyF]
    exact regs_mo hm (s := (setHt (keysF m k s).1 k (goTo m.sp ((keysF m k s).1.ht k) ((keysF m k s).1.tg k)), (keysF m k s).2)) (h1.ht k (by omega)) (goTo_in hm.s1 (h1.ht k (by omega)) (h1.tg k (by omega))) (ih (by omega)) _ (Nat.le_refl _)
theorem tick_mo {m : Mk} (hm : OkMk m) {S : Ms} (h : OkMs m S) : ∀ x, x ∈ (tickF m S).2 → MoOk x := keys_mo hm (s := ({ S with tk := S.tk + 1 }, [])) ⟨h.ht, h.tg⟩ (fun x hx => by simp at hx) _ (Nat.le_refl _)

theorem tks_start {w W : World} {b1 p gl cl gr cr : Nat} {m : Mk} {S : Ms} (hM : MacM W p gl cl gr cr m S) (hq : Blk 46 W b1 [.pointer (some ⟨p, 0, none⟩)]) (hlt : p < w.heap.size ∧ gl < w.heap.size ∧ gr < w.heap.size) (hb : b1 = w.heap.size) (hsz : W.heap.size = w.heap.size + 1)
    (hch : Chg [p, gl] w W) : TkS w ((W.setCell ⟨p, 0, none⟩ (.int .i64 (S.tk + 1))).alloc (.cells #[.slice none 0 0] 134)) [(b1, .pointer (some ⟨p, 0, none⟩))] W.heap.size p gl cl gr cr m { S with tk := S.tk + 1 } (.slice none 0 0) [] := by
  have h1 := hM.setTk (S.tk + 1)
  have h2 := hch.set (g := p) (i := 0) (.inl (by simp)) (.int .i64 (S.tk + 1))
  have h3 := hq.setOther (a := ⟨p, 0, none⟩) (by simp only; omega) (.int .i64 (S.tk + 1))
  have hs2 : (W.setCell ⟨p, 0, none⟩ (.int .i64 (S.tk + 1))).heap.size = W.heap.size := set_size _ _ _ _
  generalize W.setCell ⟨p, 0, none⟩ (.int .i64 (S.tk + 1)) = V at *
  have hbl := below_new V (.cells #[.slice none 0 0] 134)
  have q3 : Blk 134 (V.alloc (.cells #[.slice none 0 0] 134)) V.heap.size [.slice none 0 0] := Blk.new V 134 [_]
  rw [← hs2]
  have q1 := h3.keep hbl
  refine ⟨h1.keep hbl, hlt, fun x hx => ?_, q3.cell 0, q3.frozen 0, ⟨by omega, q3.lt, by simp [Value.ownBlock]⟩, own_nil _ _ _ _, h2.alloc _⟩
  simp only [List.mem_singleton] at hx
  subst hx
  exact ⟨q1.cell 0, q1.frozen 0, by simp only; omega, q1.lt, by simp only; omega, by simp [Value.ownBlock]⟩
set_option maxHeartbeats 8000000 in
set_option maxRecDepth 100000 in
theorem runTick_any (K : Nat) (hO : OrderK K) (w : World) (p gl cl gr cr : Nat) (m : Mk) (S : Ms) (hM : MacM w p gl cl gr cr m S) (hm : OkMk m) (hS : OkMs m S) (htk : 0 ≤ S.tk ∧ S.tk ≤ 1000000000000000) (hK : (tickF m S).2.length ≤ K) :
    Calls Try.prog 83 #[.pointer (some ⟨p, 0, none⟩)] w fun e w' => ∃ v', e = .returned v' ∧ OwnR w.heap.size 67 4 w' v' (tickF m S).2.length (evL (srtM (tickF m S).2)) ∧ MacM w' p gl cl gr cr m (tickF m S).1 ∧ Chg [p, gl] w w' := by
  have hlt := hM.lt
  have hb1 := below_new w (.cells #[.pointer (some ⟨p, 0, none⟩)] 46)
  have q1 : Blk 46 (w.alloc (.cells #[.pointer (some ⟨p, 0, none⟩)] 46)) w.heap.size [.pointer (some ⟨p, 0, none⟩)] := Blk.new w 46 [_]
  have hM1 := hM.keep hb1
  have hsz : (w.alloc (.cells #[.pointer (some ⟨p, 0, none⟩)] 46)).heap.size = w.heap.size + 1 := by simp
  have hch1 : Chg [p, gl] w (w.alloc (.cells #[.pointer (some ⟨p, 0, none⟩)] 46)) := Chg.of_below hb1
  have hwt : IntKind.i64.wrap (S.tk + 1) = S.tk + 1 := wrapI (by omega) (by omega)
  obtain ⟨b1, hb1'⟩ : ∃ b1, b1 = w.heap.size := ⟨_, rfl⟩
  have HSZ := Lib.hid hsz
  have HB1 := Lib.hid hb1'
  clear hsz
  go_enter Try.func83, Try.ntmps83
  go_upto_region 1 with (fail)
  rw [← hb1'] at q1 ⊢
  clear hb1'
  generalize w.alloc (.cells #[.pointer (some ⟨p, 0, none⟩)] 46) = W at *
  have d1 : W.cell? ⟨b1, 0, none⟩ = some (.pointer (some ⟨p, 0, none⟩)) := q1.cell 0
  have dp := hM1.b0
  have fp := hM1.fp 0
  have HM1 := Lib.hid hM1
  have HQ1 := Lib.hid q1
  clear q1 hM hM1
  go_upto_region 3 with (fail)
  have hT := tks_start HM1.out HQ1.out hlt HB1.out HSZ.out hch1
  clear dp fp hb1 hch1 d1
  generalize (W.setCell ⟨p, 0, none⟩ (.int .i64 (S.tk + 1))).alloc (.cells #[.slice none 0 0] 134) = W2 at *
  obtain ⟨b3, hb3⟩ : ∃ b3, b3 = W.heap.size := ⟨_, rfl⟩
  rw [← hb3] at hT ⊢
  obtain ⟨d1, _⟩ := hT.box _ (List.mem_singleton.2 rfl)
  simp only at d1
  have d2 := hT.mac.b2
  have HT := Lib.hid hT
  have HLT := Lib.hid hlt
  clear hb3 HM1 HQ1 HSZ hT hlt
  have hk1 := hm.k1
  have hk2 := hm.k2
  go_wp2_with (fail)
  go_loopw [4, 5, 6, 7, 8, 9, 24] (fun _ _ _ _ _ _ t wr => ∃ (k : Nat) (v : Value), k ≤ m.K ∧ t = .int .i64 (k : Int) ∧
    TkS w wr [(b1, .pointer (some ⟨p, 0, none⟩))] b3 p gl cl gr cr m (keysF m k ({ S with tk := S.tk + 1 }, [])).1 v (keysF m k ({ S with tk := S.tk + 1 }, [])).2) (fun _ _ _ _ _ _ t _ => m.K - (intOf t).toNat)
  case atStart => exact ⟨0, _, Nat.zero_le _, rfl, HT.out⟩
  case round =>
    clear d1 d2 HT
    obtain ⟨k, v, hk, rfl, hT⟩ := hrel
    by_cases hlt : k < m.K
    · have hmo := fun k => keys_len hm ({ S with tk := S.tk + 1 }, []) k
      have hok := keys_ok hm (s := ({ S with tk := S.tk + 1 }, [])) ⟨hS.ht, hS.tg⟩ k hk
      have hlen := hmo k
      have htk1 := (keys_st m ({ S with tk := S.tk + 1 }, []) k).2.1
      have hsucc : keysF m (k + 1) ({ S with tk := S.tk + 1 }, []) = keyF m k (keysF m k ({ S with tk := S.tk + 1 }, [])) := rfl
      generalize hs0 : keysF m k ({ S with tk := S.tk + 1 }, []) = s0 at *
      have hh := hok.ht k hlt
      have ht := hok.tg k hlt
      simp only [List.length_nil, Nat.zero_add] at hlen htk1
      have HSU := Lib.hid hsucc
      have HLEN := Lib.hid hlen
      have HTK := Lib.hid htk1
      have hlt2 : (k : Int) < (m.K : Int) := by omega
      clear hsucc hlen htk1 hmo hs0 hok
      obtain ⟨frm, hfrm⟩ : ∃ x, x = s0.1.ht k := ⟨_, rfl⟩
      obtain ⟨tgt, htgt⟩ : ∃ x, x = s0.1.tg k := ⟨_, rfl⟩
      rw [← hfrm] at hh
      rw [← htgt] at ht
      have HFM := Lib.hid hfrm
      have HTG := Lib.hid htgt
      clear hfrm htgt
      have hsp1 := hm.s1
      have hsp2 := hm.s2
      -- key := ..
      obtain ⟨d1, _⟩ := hT.box _ (List.mem_singleton.2 rfl)
      simp only at d1
      go_upto_region 6 with (fail)
      have hT1 := hT.var (.int .i64 (k : Int)) 3
      have e4 : (wr.heap.size : Nat) = wr.heap.size := rfl
      obtain ⟨b4, hb4⟩ : ∃ b4, b4 = wr.heap.size := ⟨_, rfl⟩
      rw [← hb4] at hT1 ⊢
      clear e4 hT d1 hb4
      generalize wr.alloc (.cells #[.int .i64 (k : Int)] 3) = W4 at *
      obtain ⟨d1, _, _, l1, _⟩ := hT1.box (b1, .pointer (some ⟨p, 0, none⟩)) (by simp)
      obtain ⟨d4, _, _, l4, _⟩ := hT1.box (b4, .int .i64 (k : Int)) (by simp)
      simp only at d1 d4 l1 l4
      have dp := hT1.mac.b2
      have lp := hT1.mac.lt.1
      have HT1 := Lib.hid hT1
      clear hT1
      go_region_held (fun w' => w'.cell? ⟨b1, 0, none⟩ = some (.pointer (some ⟨p, 0, none⟩)) ∧ w'.cell? ⟨b4, 0, none⟩ = some (.int .i64 (k : Int)) ∧ w'.cell? ⟨p, 2, none⟩ = some (.slice (some ⟨gl, 0, none⟩) m.K cl)) (go_keep) (fail)
      clear d1 d4 dp l1 l4 lp
      have hT2 := (HT1.out.var (.pointer (some ⟨gl, k * 14, none⟩)) 125).drew
      obtain ⟨b5, hb5⟩ : ∃ b5, b5 = W4.heap.size := ⟨_, rfl⟩
      rw [← hb5] at hT2 ⊢
      clear hb5 HT1
      generalize (W4.alloc (.cells #[.pointer (some ⟨gl, k * 14, none⟩)] 125)).drew = W5 at *
      obtain ⟨d5, _⟩ := hT2.box (b5, .pointer (some ⟨gl, k * 14, none⟩)) (by simp)
      simp only at d5
      have dh := hT2.mac.ht hlt
      rw [← HFM.out] at dh
      have HT2 := Lib.hid hT2
      clear hT2
      go_upto_region 8 with (fail)
      clear d5 dh
      have hT3 := HT2.out.var (.int .i64 frm) 3
      obtain ⟨b6, hb6⟩ : ∃ b6, b6 = W5.heap.size := ⟨_, rfl⟩
      rw [← hb6] at hT3 ⊢
      clear hb6 HT2
      generalize W5.alloc (.cells #[.int .i64 frm] 3) = W6 at *
      obtain ⟨tu, hto⟩ : ∃ x, x = goTo m.sp frm tgt := ⟨_, rfl⟩
      have HTO := Lib.hid hto
      have HT3 := Lib.hid hT3
      clear hto hT3
      go_cut [] from 25 to 87 (fun ww => TkS w ww [(b6, .int .i64 frm), (b5, .pointer (some ⟨gl, k * 14, none⟩)), (b4, .int .i64 (k : Int)), (b1, .pointer (some ⟨p, 0, none⟩))] b3 p gl cl gr cr m (setHt s0.1 k tu) v s0.2)
      case first =>
        have hT3 := HT3.out
        obtain ⟨d6, _⟩ := hT3.box (b6, .int .i64 frm) (by simp)
        obtain ⟨d5, _⟩ := hT3.box (b5, .pointer (some ⟨gl, k * 14, none⟩)) (by simp)
        obtain ⟨d1, _⟩ := hT3.box (b1, .pointer (some ⟨p, 0, none⟩)) (by simp)
        simp only at d1 d5 d6
        have dt := hT3.mac.tg hlt
        rw [← HTG.out] at dt
        have dh := hT3.mac.ht hlt
        rw [← HFM.out] at dh
        have ds := hT3.mac.b1
        have df := hT3.mac.fl' (k * 14)
        have h1 : IntKind.i64.wrap (tgt - frm) = tgt - frm := wrapI (by omega) (by omega)
        have h2 : IntKind.i64.wrap (-m.sp) = -m.sp := wrapI (by omega) (by omega)
        have htur : ∀ x, x = tgt - frm ∨ x = m.sp ∨ x = -m.sp → IntKind.i64.wrap (frm + x) = frm + x := fun x hx => wrapI (by omega) (by omega)
        have HW3 := Lib.hid htur
        clear hT3 htur
        have hsk : ∀ (W' : World) (v : Value), (W'.setCell ⟨gl, k * 14, none⟩ v).cell? ⟨gl, k * 14 + 1, none⟩ = W'.cell? ⟨gl, k * 14 + 1, none⟩ := fun W' v => World.cell?_setCell_other _ _ _ _ (by intro e; injection e with e1 e2; omega)
        have n1 : gl ≠ b1 := by have := HT3.out.old; have := (HT3.out.box (b1, .pointer (some ⟨p, 0, none⟩)) (by simp)).2.2.1; simp only at this; omega
        have n5 : gl ≠ b5 := by have := HT3.out.old; have := (HT3.out.box (b5, .pointer (some ⟨gl, k * 14, none⟩)) (by simp)).2.2.1; simp only at this; omega
        have n6 : gl ≠ b6 := by have := HT3.out.old; have := (HT3.out.box (b6, .int .i64 frm) (by simp)).2.2.1; simp only at this; omega
        have n7 : gl ≠ p := Ne.symm HT3.out.mac.ne.1
        have n1' := Ne.symm n1
        have n5' := Ne.symm n5
        have n6' := Ne.symm n6
        have n7' := Ne.symm n7
        rcases Int.lt_or_le (tgt - frm) m.sp with c1 | c1
        · rcases Int.lt_or_le (-m.sp) (tgt - frm) with c2 | c2
          · have c3 : ¬ tgt - frm ≤ -m.sp := by omega
            have c4 : ¬ m.sp ≤ tgt - frm := by omega
            have hw := HW3.out (tgt - frm) (by omega)
            have he : frm + (tgt - frm) = tu := by rw [HTO.out]; unfold goTo; omega
            have HE := Lib.hid he
            clear he
            go_region_held (fun w' => w'.cell? ⟨b1, 0, none⟩ = some (.pointer (some ⟨p, 0, none⟩)) ∧ w'.cell? ⟨b5, 0, none⟩ = some (.pointer (some ⟨gl, k * 14, none⟩)) ∧ w'.cell? ⟨b6, 0, none⟩ = some (.int .i64 frm) ∧ w'.cell? ⟨p, 1, none⟩ = some (.int .i64 m.sp) ∧ w'.cell? ⟨gl, k * 14 + 1, none⟩ = some (.int .i64 tgt)) (go_keep) (fail)
            go_wp2_with (fail)
            go_meet
            case rel => rw [HE.out]; exact (HT3.out.turn (.inr rfl) (HT3.out.mac.setH hlt tu)).drew
          · have c3 : ¬ -m.sp < tgt - frm := by omega
            have c4 : ¬ m.sp ≤ tgt - frm := by omega
            have hw := HW3.out (-m.sp) (by omega)
            have he : frm + -m.sp = tu := by rw [HTO.out]; unfold goTo; omega
            have HE := Lib.hid he
            clear he
            go_region_held (fun w' => w'.cell? ⟨b1, 0, none⟩ = some (.pointer (some ⟨p, 0, none⟩)) ∧ w'.cell? ⟨b5, 0, none⟩ = some (.pointer (some ⟨gl, k * 14, none⟩)) ∧ w'.cell? ⟨b6, 0, none⟩ = some (.int .i64 frm) ∧ w'.cell? ⟨p, 1, none⟩ = some (.int .i64 m.sp) ∧ w'.cell? ⟨gl, k * 14 + 1, none⟩ = some (.int .i64 tgt)) (go_keep) (fail)
            go_wp2_with (fail)
            go_meet
            case rel => rw [HE.out]; exact (HT3.out.turn (.inr rfl) (HT3.out.mac.setH hlt tu)).drew
        · have c3 : ¬ tgt - frm < m.sp := by omega
          have c4 : -m.sp < m.sp := by omega
          have c5 : ¬ m.sp ≤ -m.sp := by omega
          have hw := HW3.out (m.sp) (by omega)
          have he : frm + m.sp = tu := by rw [HTO.out]; unfold goTo; omega
          have HE := Lib.hid he
          clear he
          go_region_held (fun w' => w'.cell? ⟨b1, 0, none⟩ = some (.pointer (some ⟨p, 0, none⟩)) ∧ w'.cell? ⟨b5, 0, none⟩ = some (.pointer (some ⟨gl, k * 14, none⟩)) ∧ w'.cell? ⟨b6, 0, none⟩ = some (.int .i64 frm) ∧ w'.cell? ⟨p, 1, none⟩ = some (.int .i64 m.sp) ∧ w'.cell? ⟨gl, k * 14 + 1, none⟩ = some (.int .i64 tgt)) (go_keep) (fail)
          go_wp2_with (fail)
          go_meet
          case rel => rw [HE.out]; exact (HT3.out.turn (.inr rfl) (HT3.out.mac.setH hlt tu)).drew
      case rest =>
      have hT := hcut
      clear hcut HT3
      have hbs : ∀ x, x ∈ [(b6, Value.int .i64 frm), (b5, .pointer (some ⟨gl, k * 14, none⟩)), (b4, .int .i64 (k : Int)), (b1, .pointer (some ⟨p, 0, none⟩))] → x ∈ [(b6, Value.int .i64 frm), (b5, .pointer (some ⟨gl, k * 14, none⟩)), (b4, .int .i64 (k : Int)), (b1, .pointer (some ⟨p, 0, none⟩))] := fun x hx => hx
      obtain ⟨d1, _⟩ := hT.box (b1, .pointer (some ⟨p, 0, none⟩)) (by simp)
      simp only at d1
      have d3 := hT.mac.b3
      have hn1 := hm.n1
      have hn2 := hm.n2
      have htu : 0 ≤ tu ∧ tu ≤ 1000 := by rw [HTO.out]; exact goTo_in hsp1 hh ht
      have HTT := Lib.hid hT
      clear hT hbs
      go_wp2_with (fail)
      obtain ⟨s1, hs1⟩ : ∃ s1, s1 = (setHt s0.1 k tu, s0.2) := ⟨_, rfl⟩
      have hs1k : s1.1.ht k = tu ∧ s1.1.tk = S.tk + 1 ∧ s1.2 = s0.2 := by rw [hs1]; exact ⟨by simp [setHt], HTK.out, rfl⟩
      have HS1 := Lib.hid hs1
      have HT4 : Hid (TkS w wc [(b6, .int .i64 frm), (b5, .pointer (some ⟨gl, k * 14, none⟩)), (b4, .int .i64 (k : Int)), (b1, .pointer (some ⟨p, 0, none⟩))] b3 p gl cl gr cr m (regsF m k frm tu 0 s1).1 v (regsF m k frm tu 0 s1).2) := Lib.hid (by rw [hs1]; exact HTT.out)
      have HSK := Lib.hid hs1k
      clear HTT hs1 hs1k
      go_loopw [7, 8, 9, 64] (fun _ _ _ t ww => ∃ (r : Nat) (v' : Value), r ≤ m.N ∧ t = .int .i64 (r : Int) ∧
        TkS w ww [(b6, .int .i64 frm), (b5, .pointer (some ⟨gl, k * 14, none⟩)), (b4, .int .i64 (k : Int)), (b1, .pointer (some ⟨p, 0, none⟩))] b3 p gl cl gr cr m (regsF m k frm tu r s1).1 v' (regsF m k frm tu r s1).2) (fun _ _ _ t _ => m.N - (intOf t).toNat)
      case atStart => exact ⟨0, v, Nat.zero_le _, rfl, HT4.out⟩
      case round =>
        clear d1 d3 HT4
        obtain ⟨r, v', hr, rfl, hT⟩ := hrel
        by_cases hrn : r < m.N
        · have hlt3 : (r : Int) < (m.N : Int) := by omega
          have hr4 : r < 4 := by omega
          have hr4' : (r : Int) < 4 := by omega
          have hst := regs_st m k frm tu s1 r
          have hle := regs_len m k frm tu s1 r
          have hsu : regsF m k frm tu (r + 1) s1 = if (regsF m k frm tu r s1).1.on r = true then
              (setJ (regsF m k frm tu r s1).1 k r (passJ (regsF m k frm tu r s1).1.tk frm tu (m.pl r) (m.re r) (m.da r) ((regsF m k frm tu r s1).1.jk k r)),
               (regsF m k frm tu r s1).2 ++ passN (regsF m k frm tu r s1).1.tk k r frm tu (m.pl r) (m.re r) (m.da r) ((regsF m k frm tu r s1).1.jk k r)) else regsF m k frm tu r s1 := rfl
          generalize regsF m k frm tu r s1 = s2 at *
          have hht : s2.1.ht k = tu := by rw [hst.1]; exact HSK.out.1
          have htk2 : s2.1.tk = S.tk + 1 := by rw [hst.2.2.1]; exact HSK.out.2.1
          have hln : s2.2.length ≤ 10000 := by
            have h5 := HLEN.out
            have h6 := HSK.out.2.2
            rw [h6] at hle
            omega
          have hrg := hm.reg r hrn
          have HSU2 := Lib.hid hsu
          have HHT := Lib.hid hht
          have HTK2 := Lib.hid htk2
          clear hsu hst hle hht htk2
          have a1 := hT.mac.pl hrn
          have a2 := hT.mac.re hrn
          have a3 := hT.mac.da hrn
          have a4 := hT.mac.on hrn
          obtain ⟨pl, hpl⟩ : ∃ x, x = m.pl r := ⟨_, rfl⟩
          obtain ⟨re, hre⟩ : ∃ x, x = m.re r := ⟨_, rfl⟩
          obtain ⟨da, hda⟩ : ∃ x, x = m.da r := ⟨_, rfl⟩
          obtain ⟨on, hon⟩ : ∃ x, x = s2.1.on r := ⟨_, rfl⟩
          rw [← hpl] at a1 hrg; rw [← hre] at a2 hrg; rw [← hda] at a3 hrg; rw [← hon] at a4
          have HPL := Lib.hid hpl
          have HRE := Lib.hid hre
          have HDA := Lib.hid hda
          have HON := Lib.hid hon
          clear hpl hre hda hon
          go_upto_region 13 with (fail)
          clear a1 a2 a3 a4
          have hT1 := hT.var (.int .i64 (r : Int)) 3
          obtain ⟨b7, hb7⟩ : ∃ b7, b7 = wr.heap.size := ⟨_, rfl⟩
          have q8 : Blk 84 ((wr.alloc (.cells #[.int .i64 (r : Int)] 3)).alloc (.cells #[.int .i64 pl, .int .i64 re, .int .i64 da, .bool on] 84)) (wr.alloc (.cells #[.int .i64 (r : Int)] 3)).heap.size [.int .i64 pl, .int .i64 re, .int .i64 da, .bool on] := Blk.new _ 84 [_, _, _, _]
          have hT2 := hT1.keep (below_new _ (.cells #[.int .i64 pl, .int .i64 re, .int .i64 da, .bool on] 84))
          have s7 : (wr.alloc (.cells #[.int .i64 (r : Int)] 3)).heap.size = wr.heap.size + 1 := by simp
          rw [s7] at q8
          rw [← hb7] at hT2 q8 ⊢
          obtain ⟨b8, hb8⟩ : ∃ b8, b8 = b7 + 1 := ⟨_, rfl⟩
          rw [← hb8] at q8 ⊢
          have hb0 := hT.size
          have HB7 := Lib.hid (show w.heap.size ≤ b7 ∧ b8 = b7 + 1 by omega)
          clear hT1 hT hb7 hb8 s7 hb0
          generalize (wr.alloc (.cells #[.int .i64 (r : Int)] 3)).alloc (.cells #[.int .i64 pl, .int .i64 re, .int .i64 da, .bool on] 84) = W8 at *
          have f0 : W8.cell? ⟨b8, 0, none⟩ = some (.int .i64 pl) := q8.cell 0
          have f1 : W8.cell? ⟨b8, 1, none⟩ = some (.int .i64 re) := q8.cell 1
          have f2 : W8.cell? ⟨b8, 2, none⟩ = some (.int .i64 da) := q8.cell 2
          have f3 : W8.cell? ⟨b8, 3, none⟩ = some (.bool on) := q8.cell 3
          cases hon : on with
          | false =>
            have he : regsF m k frm tu (r + 1) s1 = s2 := by rw [HSU2.out, if_neg (by rw [← HON.out, hon]; simp)]
            have HE := Lib.hid he
            have HT2 := Lib.hid hT2
            rw [hon] at f3
            clear he hT2
            go_wp2_with (fail)
            go_roundw
            case rel => exact ⟨r + 1, v', by omega, by go_num, by rw [HE.out]; exact HT2.out.sub (fun x hx => List.mem_cons_of_mem _ hx)⟩
            case measure => simp [intOf]; omega
          | true =>
            rw [hon] at f3
            have he : regsF m k frm tu (r + 1) s1 = (setJ s2.1 k r (passJ s2.1.tk frm tu pl re da (s2.1.jk k r)), s2.2 ++ passN s2.1.tk k r frm tu pl re da (s2.1.jk k r)) := by
              rw [HSU2.out, if_pos (by rw [← HON.out, hon]), HPL.out, HRE.out, HDA.out]
            obtain ⟨d1, _⟩ := hT2.box (b1, .pointer (some ⟨p, 0, none⟩)) (by simp)
            obtain ⟨d5, _⟩ := hT2.box (b5, .pointer (some ⟨gl, k * 14, none⟩)) (by simp)
            obtain ⟨d6, _⟩ := hT2.box (b6, .int .i64 frm) (by simp)
            obtain ⟨d7, _⟩ := hT2.box (b7, .int .i64 (r : Int)) (by simp)
            simp only at d1 d5 d6 d7
            have dh := hT2.mac.ht hlt
            rw [HHT.out] at dh
            have hnote := hT2.note hlt (show (b1, Value.pointer (some ⟨p, 0, none⟩)) ∈ _ by simp) (show (b4, Value.int .i64 (k : Int)) ∈ _ by simp) (show (b7, Value.int .i64 (r : Int)) ∈ _ by simp) (show (b6, Value.int .i64 frm) ∈ _ by simp) (show (b5, Value.pointer (some ⟨gl, k * 14, none⟩)) ∈ _ by simp)
            rw [HHT.out] at hnote
            have hpa := fun (W : World) (mm : MacM W p gl cl gr cr m s2.1) (nn : NoteM w.heap.size W b1 b4 b7 b3 b6 b5 p gl gr k s2.1.tk (k : Int) (r : Int) frm tu v' s2.2) (hb : w.heap.size ≤ W.heap.size) =>
              pass_any w.heap.size W b1 b4 b7 b3 b6 b5 p gl cl gr cr k r (k * 14 + 2 + r * 3) m (k : Int) (r : Int) frm tu on pl re da s2.1 v' s2.2 mm nn hlt hr4 rfl hb hln (by omega) (by omega) (by omega) (by omega)
            have hpa2 := hpa W8.drew hT2.mac.drew (hnote.keep (Below.refl _ _).drew) hT2.size
            rw [hon] at hpa2
            have HPA := Lib.hid hpa2
            have HE := Lib.hid he
            have HT2 := Lib.hid hT2
            have HNO := Lib.hid hnote
            clear he hT2 hnote hpa hpa2
            go_wp2_with (fail)
            go_still_tail 13, (by kernel_rfl)
            change wpList _ _ _ _ _ W8.drew
            go_wp2_with (fail)
            refine (HPA.out).mono ?_
            rintro e w9 ⟨⟨x, rfl⟩, v9, hm9, hn9, hc9, ho9⟩
            have hT9 := HT2.out.drew.step (hc9.mono (fun y hy => by simp at hy ⊢; rcases hy with h | h | h <;> simp [h])) hm9 hn9.c3 hn9.f3 hn9.own ho9
            have HT9 := Lib.hid (hT9.sub (bs' := [(b6, .int .i64 frm), (b5, .pointer (some ⟨gl, k * 14, none⟩)), (b4, .int .i64 (k : Int)), (b1, .pointer (some ⟨p, 0, none⟩))]) (fun x hx => List.mem_cons_of_mem _ hx))
            clear hm9 hn9 hc9 ho9 hT9
            go_wp2_with (fail)
            go_roundw
            case rel => exact ⟨r + 1, v9, by omega, by go_num, by rw [HE.out]; exact HT9.out⟩
            case measure => simp [intOf]; omega
        · obtain rfl : r = m.N := by omega
          have he : keysF m (k + 1) ({ S with tk := S.tk + 1 }, []) = regsF m k frm tu m.N s1 := by
            rw [HSU.out, HS1.out, HTO.out, HFM.out, HTG.out]; rfl
          have HE := Lib.hid he
          have HT9 := Lib.hid (hT.sub (bs' := [(b1, .pointer (some ⟨p, 0, none⟩))]) (fun x hx => by simp at hx ⊢; simp [hx]))
          clear he hT
          go_wp2_with (fail)
          go_roundw
          case rel => exact ⟨k + 1, v', by omega, by go_num, by rw [HE.out]; exact HT9.out⟩
          case measure => simp [intOf]; omega
    · obtain rfl : k = m.K := by omega
      obtain ⟨d1, _⟩ := hT.box _ (List.mem_singleton.2 rfl)
      have d3 := hT.c3
      have hio := hO w.heap.size wr v (tickF m S).2 hK hT.own hT.size (tick_mo hm hS)
      have HIO := Lib.hid hio
      have HT := Lib.hid hT
      clear hio hT d1
      go_wp2_with (go_at_call 91; refine (HIO.out).mono ?_; rintro e w1 ⟨v', rfl, hv', hc'⟩)
      go_ret
      have hT := HT.out
      have hno : ∀ x, x ∈ v.ownBlock.toList → w.heap.size ≤ x := fun x hx => (own_lt hT.own x (by simpa using hx)).1
      refine ⟨_, rfl, ?_, ?_, ?_⟩
      · obtain ⟨g, cap, e, h1, h3, h4, h5, h6⟩ := hv'
        exact ⟨g, cap, e, by have := hT.size; omega, h3, h4, h5, h6⟩
      · exact hT.mac.chg hc' ⟨fun h => by have := hno _ h; have := HLT.out; omega, fun h => by have := hno _ h; have := HLT.out; omega, fun h => by have := hno _ h; have := HLT.out; omega⟩
      · exact hT.chg.after hc' (fun x hx => .inr (hno x hx))
end Go.Proofs.Ytpaemlkikkcjiaa
