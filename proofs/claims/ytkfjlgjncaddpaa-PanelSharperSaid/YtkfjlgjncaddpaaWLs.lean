/- PanelSharper. -/
import Derived.Test.YtkfjlgjncaddpaaPn
import Derived.Test.YtkfjlgjncaddpaaTrn2
import Derived.Test.YtkfjlgjncaddpaaWRck
import Derived.Deep.Cut
import Derived.Deep.CutRange
import Derived.Deep.RegionHeld3
import Derived.Deep.RegionHeldLaw
import Derived.Deep.AppendLies
namespace Go.Proofs.Ytkfjlgjncaddpaa
open Go.RowKit

theorem cut20_or (x : Int) : cut20 x ≤ 20 ∨ 64 < cut20 x := by unfold cut20; split <;> omega
theorem step_own {P : Program} {ops : Array Oper} {o : Oper} {a : Act} {w : World} {K : Act → World → Prop} {Q : Exit → Act → World → Prop} {E : Prop} (hw : Region.wanted o (yielded ops a.tmps) = true) (s x : Operand) (t : TypeId)
    (ho : o.op = .call { callee := .builtin .append, args := #[s, x], argTypes := #[t, t] })
    (base : Nat) (e : TypeId) (i : TypeInfo) (z : Value) (size bytes : Nat) (ht : P.underlying t = some (.slice e)) (hi : P.info? e = some i) (hz : i.zero = some z)
    (hsize : i.size = size) (hby : i.bytes = bytes) (hzs : z.cells.size = size) (hsz : 0 < size)
    (v : Value) (n : Nat) (xs : List Value) (hs : a.eval s = v) (hown : w.ownsRow base e size v n xs)
    (ad : Addr) (m c : Nat) (news : List Value) (hx : a.eval x = .slice (some ad) m c) (hl : news.length = m * size) (hnews : ∀ j u, news[j]? = some u → w.cell? (ad.add j) = some u) (h1 : ∀ u ∈ news, u.oneCell' = true)
    (h63 : n + m ≤ maxLen) (hbytes : (n + m) * bytes ≤ 140737488355328) (hbase : base ≤ w.heap.size)
    (h : ∀ v' w', w'.ownsRow base e size v' (n + m) (xs ++ news) → w.grownBy w' v.ownBlock → (v' = .slice none 0 0 ↔ v = .slice none 0 0 ∧ m = 0) → K (a.put o.dst v') w') :
    if Region.wanted o (yielded ops a.tmps) = true then Oper.wp P o a w K Q else E := by
  rw [if_pos hw]
  exact wp_append_own w s x t ho base e i z size bytes ht hi hz hsize hby hzs hsz v n xs hs hown ad m c news hx hl hnews h1 h63 hbytes hbase h
theorem own_emp (W : World) (B : Nat) (hB : B ≤ W.heap.size) : (W.alloc (.cells #[] 65)).ownsRow B 65 4 (.slice (some ⟨W.heap.size, 0, none⟩) 0 0) 0 [] :=
  ⟨by simp, .inr ⟨W.heap.size, 0, #[], rfl, hB, heap_alloc_new _ _, Nat.le_refl _, by unfold maxLen; omega, by simp, by simp⟩⟩
theorem own_at {B : Nat} {w : World} {v : Value} {n : Nat} {vs : List Value} (h : w.ownsRow B 65 4 v (0 + n) ([] ++ vs)) : w.ownsRow B 65 4 v n vs := by simpa using h
theorem own_row {B : Nat} {w : World} {v : Value} {t : List Sh} {m : Sh} {Lt : Nat} (h : w.ownsRow B 65 4 v (Lt + 1) (sc t ++ sc [m])) (hv : v ≠ .slice none 0 0) :
    ∃ g cap, v = .slice (some ⟨g, 0, none⟩) (Lt + 1) cap ∧ ShAt w (some ⟨g, 0, none⟩) (t ++ [m]) := by
  obtain ⟨g, cap, e, _, _, _, hvals⟩ := (own_hd h hv).vals
  refine ⟨g, cap, e, ?_⟩
  show Vals _ _ (sc (t ++ [m]))
  rw [sc_append]; exact hvals
theorem okP_w1 {i j k : Nat} {ss : List Sh} (h : okP i j k ss = true) (hi : i ≤ 63) : okP ((i + 1 : Nat) : Int) j k ss = true := by
  obtain ⟨i', j', k', e1, e2, e3, h1, h2, h3, h4, h5, h6, h7⟩ := okP_ok h
  obtain rfl : i = i' := by omega
  obtain rfl : j = j' := by omega
  obtain rfl : k = k' := by omega
  exact okP_of (by omega) (by omega) h3 h4 h5 h6 h7
theorem okP_k1 {i j k : Nat} {ss : List Sh} (h : okP i j k ss = true) : okP (i : Int) j ((k - 1 : Nat) : Int) ss = true := by
  obtain ⟨i', j', k', e1, e2, e3, h1, h2, h3, h4, h5, h6, h7⟩ := okP_ok h
  obtain rfl : i = i' := by omega
  obtain rfl : j = j' := by omega
  obtain rfl : k = k' := by omega
  exact okP_of h1 h2 h3 h4 (by omega) h6 h7
theorem okP_trn {i j k : Int} {ss : List Sh} (h : okP i j k ss = true) : okP i j k (trn ss ss.length) = true := by
  rw [trn_all]
  have e : (ss.map fun s : Sh => ({ s with t := true } : Sh)).all okB = ss.all okB := by rw [List.all_map]; rfl
  unfold okP at h ⊢
  rw [e, List.length_map]
  exact h
set_option maxHeartbeats 4000000 in
set_option maxRecDepth 100000 in
theorem sharper_law (W H K : Int) (A : Option Addr) (c L : Nat) (ss : List Sh) (mw mh mv : Int) (mt : Bool) (w : World) (hA : ShAt w A ss) (hL : L = ss.length) (hc : L ≤ c) (hnil : A = none → c = 0) (hW : -9223372036854775808 ≤ W ∧ W ≤ 9223372036854775807) (hH : -9223372036854775808 ≤ H ∧ H ≤ 9223372036854775807) :
    Calls Try.prog 13 #[.agg #[.int .i64 W, .int .i64 H, .int .i64 K, .slice A L c], .agg #[.int .i64 mw, .int .i64 mh, .int .i64 mv, .bool mt]] w fun e w' => e = .returned (.bool true) ∧ Below w.heap.size w w' := by
  have hb0 : Below w.heap.size w ((w.alloc (.cells #[.int .i64 W, .int .i64 H, .int .i64 K, .slice A L c] 24)).alloc (.cells #[.int .i64 mw, .int .i64 mh, .int .i64 mv, .bool mt] 65)) := ((Below.refl _ _).alloc (Nat.le_refl _) _).alloc (by simp) _
  have hfw := few_any W H K A c L ss ((w.alloc (.cells #[.int .i64 W, .int .i64 H, .int .i64 K, .slice A L c] 24)).alloc (.cells #[.int .i64 mw, .int .i64 mh, .int .i64 mv, .bool mt] 65)) (hA.keep hb0) hL hc hnil hW hH
  have HFW := Lib.hid hfw
  have HB0 := Lib.hid hb0
  have hmb : Blk 65 ((w.alloc (.cells #[.int .i64 W, .int .i64 H, .int .i64 K, .slice A L c] 24)).alloc (.cells #[.int .i64 mw, .int .i64 mh, .int .i64 mv, .bool mt] 65)) (w.heap.size + 1) (shC ⟨mw, mh, mv, mt⟩) := blk_new2 (shC ⟨mw, mh, mv, mt⟩)
  have HMB := Lib.hid hmb
  clear hmb
  clear hfw hb0 hA hL hW hH hc hnil
  go_enter Try.func13, Try.ntmps13
  go_upto_region 2 with (go_at_call 16; refine (HFW.out).mono ?_; rintro e w1 ⟨g, cap, rfl, hwg, hnc, hcm, hH, hb1⟩)
  have hpn := @pn_new w _ w1 g cap (cut20 W) (cut20 H) K ss HB0.out hwg hnc hcm hH hb1
  have HMB2 := Lib.hid ((HMB.out.keep hb1).keep (below_new w1 (.cells #[.int .i64 (cut20 W), .int .i64 (cut20 H), .int .i64 K, .slice (some ⟨g, 0, none⟩) (fewL ss).length cap] 24)))
  clear HMB
  obtain ⟨b3, hb3⟩ : ∃ b3, b3 = w.heap.size + 1 := ⟨_, rfl⟩
  rw [← hb3] at HMB2 ⊢
  have hX := cut20_or W
  have hY := cut20_or H
  obtain ⟨q, hq⟩ : ∃ q, q = w1.heap.size := ⟨_, rfl⟩
  rw [← hq] at hpn ⊢
  generalize (w1.alloc (.cells #[.int .i64 (cut20 W), .int .i64 (cut20 H), .int .i64 K, .slice (some ⟨g, 0, none⟩) (fewL ss).length cap] 24)) = W1 at *
  generalize cut20 W = X at *
  generalize cut20 H = Y at *
  generalize fewL ss = zs at *
  obtain ⟨n, hn⟩ : ∃ n, n = zs.length := ⟨_, rfl⟩
  rw [← hn] at hpn ⊢
  have HP := Lib.hid hpn
  have HX := Lib.hid hX
  have HY := Lib.hid hY
  clear hX hY
  clear HFW HB0 hq hpn hH hwg hnc hcm hb1 hn
  clear hb3
  have hn17 : n ≤ 17 := HP.out.len.2.1
  have hck := fun V (h : PnM w V q g n cap X Y K zs) => refCheck_any X Y K (some ⟨g, 0, none⟩) cap n zs V h.sh.vals h.len.1 (by omega)
  obtain ⟨p0, p1, p2, p3⟩ := HP.out.cells
  cases hok : okP X Y K zs with
  | false =>
    have e1 : ckE X Y K zs = 1 := by unfold ckE; rw [hok]; rfl
    rw [e1] at hck
    have HCK := Lib.hid hck
    clear hck hok e1
    go_wp2_with (first | (go_at_call 17; refine (HCK.out _ HP.out).mono ?_; rintro e w4 ⟨rfl, hb4⟩) | (go_at_call 20; refine (lives_any _).mono ?_; rintro e w5 ⟨rfl, hb5⟩))
    go_ret
    exact ⟨rfl, below2 (below2 HP.out.bel hb4) hb5⟩
  | true =>
    have e1 : ckE X Y K zs = 0 := by unfold ckE; rw [hok]; rfl
    obtain ⟨i, j, k, rfl, rfl, rfl, hi1, hi, hj1, hj, hk, hlen, hoks⟩ := okP_ok hok
    have hi20 : i ≤ 20 := by have := HX.out; omega
    rw [e1] at hck
    have HCK := Lib.hid hck
    have HB0 := Lib.hid (fun V (h : PnM w V q g n cap i j k zs) => best_val i j k (some ⟨g, 0, none⟩) cap n zs V h.sh.vals h.len.1 (by omega) hok)
    have hmax : ((k - 1 : Nat) : Int) = if (k : Int) - 1 < 0 then 0 else (k : Int) - 1 := by split <;> omega
    have hplus : ((i + 1 : Nat) : Int) = (i : Int) + 1 := by omega
    have hb1 : ∀ V, PnM w V q g n cap i j k zs → Calls Try.prog 23 #[.int .i64 (i : Int), .int .i64 (j : Int), .int .i64 (if (k : Int) - 1 < 0 then 0 else (k : Int) - 1), .slice (some ⟨g, 0, none⟩) n cap] V fun e w' => ∃ v, e = .returned (.tuple #[v, .int .i64 (best (k - 1) zs i j).v, .int .i64 0]) ∧ Below V.heap.size V w' := fun V h => by
      rw [← hmax]
      exact best_val i j (k - 1) (some ⟨g, 0, none⟩) cap n zs V h.sh.vals h.len.1 (by omega) (okP_k1 hok)
    have hb2 : ∀ V, PnM w V q g n cap i j k zs → Calls Try.prog 23 #[.int .i64 ((i : Int) + 1), .int .i64 (j : Int), .int .i64 (k : Int), .slice (some ⟨g, 0, none⟩) n cap] V fun e w' => ∃ v, e = .returned (.tuple #[v, .int .i64 (best k zs (i + 1) j).v, .int .i64 0]) ∧ Below V.heap.size V w' := fun V h => by
      rw [← hplus]
      exact best_val (i + 1) j k (some ⟨g, 0, none⟩) cap n zs V h.sh.vals h.len.1 (by omega) (okP_w1 hok (by omega))
    have l1 : (best k zs i j).v ≤ (best (k - 1) zs i j).v := better (by omega) (fun s hs a b h => ⟨s, hs, Int.le_refl _, h⟩) i j hi1 hj1
    have l2 := grow_w k zs i j hi1 hj1
    have HL3 : Hid (∀ zz, (best k zs i j).v ≤ (best k (zs ++ [zz]) i j).v) := Lib.hid fun zz => better (Nat.le_refl _) (fun s hs a b h => ⟨s, by simp [hs], Int.le_refl _, h⟩) i j hi1 hj1
    have HL4 : Hid ((best k zs i j).v ≤ (best k (trn zs zs.length) i j).v) := Lib.hid (better (Nat.le_refl _) (fun s hs a b h => ⟨{ s with t := true }, by rw [trn_all]; exact List.mem_map.2 ⟨s, hs, rfl⟩, Int.le_refl _, by
      rcases h with h | h
      · exact .inl h
      · right; unfold isT at h ⊢; simp only [Bool.and_eq_true, decide_eq_true_eq] at h ⊢; exact ⟨by simp, h.2⟩⟩) i j hi1 hj1)
    have HOK := Lib.hid hok
    obtain ⟨bv, hbv⟩ : ∃ bv, bv = (best k zs i j).v := ⟨_, rfl⟩
    rw [← hbv] at HB0 l1 l2 HL3 HL4
    generalize (best (k - 1) zs i j).v = av at *
    generalize (best k zs (i + 1) j).v = cv at *
    have d1 : decide (av < bv) = false := by simp; omega
    have d2 : decide (cv < bv) = false := by simp; omega
    have HB2 := Lib.hid hb2
    have HB1 := Lib.hid hb1
    have e2 : IntKind.i64.wrap ((k : Int) - 1) = (k : Int) - 1 := wrapI (by omega) (by omega)
    have e3 : IntKind.i64.wrap ((i : Int) + 1) = (i : Int) + 1 := wrapI (by omega) (by omega)
    clear hck hok e1 hb1 hb2 hmax hplus hbv l1 l2
    go_upto_region 4 with (go_at_call 17; refine (HCK.out _ HP.out).mono ?_; rintro e w4 ⟨rfl, hb4⟩)
    have HP2 := Lib.hid (HP.out.keep hb4)
    have HMB3 := Lib.hid (HMB2.out.keep hb4)
    clear p0 p1 p2 p3 hb4 HP HMB2 HCK
    obtain ⟨p0, p1, p2, p3⟩ := HP2.out.cells
    go_upto_region 5 with (go_at_call 23; refine (HB0.out _ HP2.out).mono ?_; rintro e w5 ⟨v5, rfl, hb5⟩)
    have HP3 := Lib.hid (HP2.out.keep hb5)
    have HMB4 := Lib.hid (HMB3.out.keep hb5)
    clear p0 p1 p2 p3 hb5 HP2 HMB3
    obtain ⟨p0, p1, p2, p3⟩ := HP3.out.cells
    go_upto_region 6 with (go_at_call 23; (with_reducible refine (HB1.out _ HP3.out).mono ?_); rintro e w6 ⟨v6, rfl, hb6⟩)
    have HP4 := Lib.hid (HP3.out.keep hb6)
    have HMB5 := Lib.hid (HMB4.out.keep hb6)
    clear p0 p1 p2 p3 hb6 HP3 HMB4
    obtain ⟨p0, p1, p2, p3⟩ := HP4.out.cells
    go_upto_region 7 with (go_at_call 23; (with_reducible refine (HB2.out _ HP4.out).mono ?_); rintro e w7 ⟨v7, rfl, hb7⟩)
    have HP5 := Lib.hid (HP4.out.keep hb7)
    have HMB6 := Lib.hid (HMB5.out.keep hb7)
    clear p0 p1 p2 p3 hb7 HP4 HMB5 HB1 HB2
    go_upto_region 9 with (go_at_call 20; refine (lives_any _).mono ?_; rintro e w8 ⟨rfl, hb8⟩)
    have HP6 := Lib.hid (HP5.out.keep hb8)
    have HMB7 := Lib.hid (HMB6.out.keep hb8)
    clear d1 d2 hb8 HP5 HMB6
    obtain ⟨i0, hi0, hz0, hz1, hz2⟩ := info_parts infoSh
    have hS : ∀ V, Below w8.heap.size w8 V → V.cell? ⟨q, 3, none⟩ = some (.slice (some ⟨g, 0, none⟩) n cap) ∧ V.cell? ⟨b3, 0, none⟩ = some (.int .i64 mw) ∧ V.cell? ⟨b3, 1, none⟩ = some (.int .i64 mh) ∧ V.cell? ⟨b3, 2, none⟩ = some (.int .i64 mv) ∧ V.cell? ⟨b3, 3, none⟩ = some (.bool mt) := fun V hV => by
      have h1 := HP6.out.keep hV
      have h2 := HMB7.out.keep hV
      exact ⟨h1.bx.cell 3, h2.cell 0, h2.cell 1, h2.cell 2, h2.cell 3⟩
    have HS := Lib.hid hS
    have HTK : Hid (∀ V, Below w8.heap.size w8 V → Vals V (some ⟨g, 0, none⟩) (sc zs)) := Lib.hid fun V hV => (HP6.out.keep hV).sh.vals
    have HLT : Hid ((sc zs).length = n * 4) := Lib.hid (by rw [sc_len, HP6.out.len.1])
    have b1 := below_on (Below.refl w8.heap.size w8).drew (Nat.le_refl _) (below_new w8.drew (.cells #[] 65))
    have b2 := below_on b1 b1.size (below_new (w8.drew.alloc (.cells #[] 65)) (.cells #[.int .i64 mw, .int .i64 mh, .int .i64 mv, .bool mt] 65))
    have b4a := below_on (Below.refl w8.heap.size w8).drew (Nat.le_refl _) (below_new w8.drew (.cells #[.int .i64 mw, .int .i64 mh, .int .i64 mv, .bool mt] 65))
    have b4 := below_on b4a b4a.size (below_new (w8.drew.alloc (.cells #[.int .i64 mw, .int .i64 mh, .int .i64 mv, .bool mt] 65)) (.cells #[] 65))
    have o1 := own_emp w8.drew w8.heap.size (Nat.le_refl _)
    have o2 := own_keep o1 (below_new (w8.drew.alloc (.cells #[] 65)) (.cells #[.int .i64 mw, .int .i64 mh, .int .i64 mv, .bool mt] 65))
    have z1 : (w8.drew.alloc (.cells #[.int .i64 mw, .int .i64 mh, .int .i64 mv, .bool mt] 65)).heap.size = w8.heap.size + 1 := by simp
    have z2 : (w8.drew.alloc (.cells #[] 65)).heap.size = w8.heap.size + 1 := by simp
    have o4 := own_emp (w8.drew.alloc (.cells #[.int .i64 mw, .int .i64 mh, .int .i64 mv, .bool mt] 65)) w8.heap.size b4a.size
    rw [z1] at o4
    have e2 : Blk 65 ((w8.drew.alloc (.cells #[] 65)).alloc (.cells #[.int .i64 mw, .int .i64 mh, .int .i64 mv, .bool mt] 65)) (w8.heap.size + 1) (sc [⟨mw, mh, mv, mt⟩]) := by rw [← z2]; exact Blk.new _ 65 (sc [⟨mw, mh, mv, mt⟩])
    have e3 : Blk 65 (w8.drew.alloc (.cells #[.int .i64 mw, .int .i64 mh, .int .i64 mv, .bool mt] 65)) w8.drew.heap.size (sc [⟨mw, mh, mv, mt⟩]) := Blk.new _ 65 (sc [⟨mw, mh, mv, mt⟩])
    have e4 := e3.keep (below_new (w8.drew.alloc (.cells #[.int .i64 mw, .int .i64 mh, .int .i64 mv, .bool mt] 65)) (.cells #[] 65))
    have n2 : w8.heap.size + 1 ≠ w8.drew.heap.size := by simp
    have n4 : w8.drew.heap.size ≠ w8.heap.size + 1 := by simp
    have B0 := Lib.hid (Below.refl w8.heap.size w8).drew
    have B1 := Lib.hid b1
    have B2 := Lib.hid b2
    have B3 := Lib.hid b4a
    have B4 := Lib.hid b4
    have O1 := Lib.hid o1
    have O2 := Lib.hid o2
    have O4 := Lib.hid o4
    have E2 := Lib.hid e2
    have E4 := Lib.hid e4
    have N2 := Lib.hid n2
    have N4 := Lib.hid n4
    have hmx1 : 0 + n ≤ maxLen := by unfold maxLen; omega
    have hmb1 : (0 + n) * 32 ≤ 140737488355328 := by omega
    have hmx2 : n + 1 ≤ maxLen := by unfold maxLen; omega
    have hmb2 : (n + 1) * 32 ≤ 140737488355328 := by omega
    have z0 := hS _ (Below.refl w8.heap.size w8).drew
    clear b1 b2 b4a b4 o1 o2 o4 e2 e3 e4 n2 n4 z1 z2 hS
    go_cut [15] from 23 (fun s ww => ∃ g6 c6, s = .slice (some ⟨g6, 0, none⟩) (n + 1) c6 ∧ ShAt ww (some ⟨g6, 0, none⟩) (zs ++ [⟨mw, mh, mv, mt⟩]) ∧ Below w8.heap.size w8 ww)
    case first =>
      go_region_held_law (fun w' => w'.cell? ⟨q, 3, none⟩ = some (.slice (some ⟨g, 0, none⟩) n cap) ∧ w'.cell? ⟨b3, 0, none⟩ = some (.int .i64 mw) ∧ w'.cell? ⟨b3, 1, none⟩ = some (.int .i64 mh) ∧ w'.cell? ⟨b3, 2, none⟩ = some (.int .i64 mv) ∧ w'.cell? ⟨b3, 3, none⟩ = some (.bool mt))
        (first | exact z0 | exact HS.out _ B1.out | exact HS.out _ B2.out | exact HS.out _ B3.out | exact HS.out _ B4.out | exact HS.out _ hb7 | exact HS.out _ hb6 | exact HS.out _ hb5 | go_keep)
        (first
          | (refine step_own (by first | rfl | (simp [Region.wanted]) | (kernel_rfl)) (.tmp 102) (.tmp 104) 22 rfl w8.heap.size 65 i0 zSh 4 32 Try.underlying22 hi0 hz0 hz1 hz2 rfl (by decide) (.slice (some ⟨w8.drew.heap.size, 0, none⟩) 0 0) 0 [] rfl O1.out ⟨g, 0, none⟩ n cap (sc zs) rfl HLT.out (vals_cells (HTK.out _ B1.out)) (sc_one zs) hmx1 hmb1 B1.out.size ?_; intro v5 w5 hown5 hgr5 hne5; have hb5 := B1.out.grown hgr5 B1.out.size (by simp [Value.ownBlock]); have hn5 : v5 ≠ .slice none 0 0 := (fun e => by have := (hne5.1 e).1; cases this); have o5 := own_at hown5; have hb6 := below_on hb5 hb5.size (below_new w5 (.cells #[.int .i64 mw, .int .i64 mh, .int .i64 mv, .bool mt] 65)); have o6 := own_keep o5 (below_new w5 (.cells #[.int .i64 mw, .int .i64 mh, .int .i64 mv, .bool mt] 65)); have k6 : Blk 65 (w5.alloc (.cells #[.int .i64 mw, .int .i64 mh, .int .i64 mv, .bool mt] 65)) w5.heap.size (sc [⟨mw, mh, mv, mt⟩]) := Blk.new _ 65 (sc [⟨mw, mh, mv, mt⟩]))
          | (refine step_own (by first | rfl | (simp [Region.wanted]) | (kernel_rfl)) (.tmp 102) (.tmp 104) 22 rfl w8.heap.size 65 i0 zSh 4 32 Try.underlying22 hi0 hz0 hz1 hz2 rfl (by decide) (.slice (some ⟨w8.drew.heap.size, 0, none⟩) 0 0) 0 [] rfl O2.out ⟨g, 0, none⟩ n cap (sc zs) rfl HLT.out (vals_cells (HTK.out _ B2.out)) (sc_one zs) hmx1 hmb1 B2.out.size ?_; intro v5 w5 hown5 hgr5 hne5; have hb5 := B2.out.grown hgr5 B2.out.size (by simp [Value.ownBlock]); have hn5 : v5 ≠ .slice none 0 0 := (fun e => by have := (hne5.1 e).1; cases this); have o5 := own_at hown5; have hb6 := hb5; have o6 := o5; have k6 := E2.out.grown hgr5 (nrow2 N2.out))
          | (refine step_own (by first | rfl | (simp [Region.wanted]) | (kernel_rfl)) (.tmp 102) (.tmp 104) 22 rfl w8.heap.size 65 i0 zSh 4 32 Try.underlying22 hi0 hz0 hz1 hz2 rfl (by decide) (.slice (some ⟨(w8.heap.size + 1), 0, none⟩) 0 0) 0 [] rfl O4.out ⟨g, 0, none⟩ n cap (sc zs) rfl HLT.out (vals_cells (HTK.out _ B4.out)) (sc_one zs) hmx1 hmb1 B4.out.size ?_; intro v5 w5 hown5 hgr5 hne5; have hb5 := B4.out.grown hgr5 B4.out.size (by simp [Value.ownBlock]); have hn5 : v5 ≠ .slice none 0 0 := (fun e => by have := (hne5.1 e).1; cases this); have o5 := own_at hown5; have hb6 := hb5; have o6 := o5; have k6 := E4.out.grown hgr5 (nrow2 N4.out))
          | (refine step_own (by first | rfl | (simp [Region.wanted]) | (kernel_rfl)) (.tmp 105) (.tmp 107) 22 rfl w8.heap.size 65 i0 zSh 4 32 Try.underlying22 hi0 hz0 hz1 hz2 rfl (by decide) v5 n (sc zs) rfl o6 ⟨_, 0, none⟩ 1 1 (sc [⟨mw, mh, mv, mt⟩]) rfl rfl (vals_cells k6.vals0) (sc_one _) hmx2 hmb2 hb6.size ?_; intro v6' w6' hown6 hgr6 hne6; have hb7 := hb6.grown hgr6 hb6.size (own_ge o6); obtain ⟨g6, cap6, rfl, hT6⟩ := own_row hown6 (fun e => hn5 (hne6.1 e).1)))
      all_goals go_wp2_with (fail)
      all_goals
        go_meet
        exact ⟨g6, cap6, rfl, hT6, hb7⟩
    case rest =>
      obtain ⟨g6, c6, rfl, hT6, hb7⟩ := hcut
      clear B0 B1 B2 B3 B4 O1 O2 O4 E2 E4 N2 N4 HS HTK HLT z0 hmx1 hmb1 hmx2 hmb2 hi0 hz0 hz1 hz2
      have HP7 := Lib.hid (HP6.out.keep hb7)
      have HT := Lib.hid hT6
      have HLZ : Hid (n = zs.length) := Lib.hid HP6.out.len.1
      clear HP6 HMB7 hT6 hb7
      have hzl : n + 1 = (zs ++ [(⟨mw, mh, mv, mt⟩ : Sh)]).length := by have := HLZ.out; simp; omega
      have hl3 := HL3.out ⟨mw, mh, mv, mt⟩
      obtain ⟨wz, hwz⟩ : ∃ wz, wz = zs ++ [(⟨mw, mh, mv, mt⟩ : Sh)] := ⟨_, rfl⟩
      rw [← hwz] at hzl hl3 HT
      have hck := fun V (h : Below wc.heap.size wc V) => refCheck_any i j k (some ⟨g6, 0, none⟩) c6 (n + 1) wz V (HT.out.keep h) hzl (by omega)
      obtain ⟨p0, p1, p2, p3⟩ := HP7.out.cells
      have hrfl : Hid (Below wc.heap.size wc wc) := Lib.hid (Below.refl _ _)
      go_upto_region 10 with (fail)
      cases hokw : okP i j k wz with
      | false =>
        have e1 : ckE i j k wz = 1 := by unfold ckE; rw [hokw]; rfl
        rw [e1] at hck
        have HCK := Lib.hid hck
        clear hck hokw e1 hl3 hzl hwz
        go_upto_region 14 with (go_at_call 17; refine (HCK.out _ hrfl.out).mono ?_; rintro e w9 ⟨rfl, hb9⟩)
        have HP8 := Lib.hid (HP7.out.keep hb9)
        clear hb9 HP7 HT p0 p1 p2 p3 HCK hrfl
        have HP9 : Hid (PnM w w9 q g n cap i j k (trn zs 0)) := Lib.hid (by rw [trn_zero]; exact HP8.out)
        clear HP8
        go_upto_region 15 with (fail)
        go_loopw [19] (fun t wr => ∃ m : Nat, m ≤ n ∧ t = .int .i64 (m : Int) ∧ Hid (PnM w wr q g n cap i j k (trn zs m))) (fun t _ => n - (intOf t).toNat)
        case atStart => exact ⟨0, Nat.zero_le _, rfl, HP9⟩
        case round =>
          clear HP9
          obtain ⟨m, hmn, rfl, HP⟩ := hrel
          obtain ⟨p0, p1, p2, p3⟩ := HP.out.cells
          by_cases hlt : m < n
          · have hlt2 : (m : Int) < (n : Int) := by omega
            have hmz : m < zs.length := by have := HLZ.out; omega
            obtain ⟨c0, c1, c2, c3⟩ := HP.out.at_ (m := m) (by rw [trn_len]; exact hmz)
            have ff := HP.out.sh.frozen
            have HPN := Lib.hid (HP.out.setT hmz)
            clear c0 c1 c2
            go_wp2_with (fail)
            go_roundw
            case rel => exact ⟨m + 1, by omega, by go_num, HPN⟩
            case measure => simp [intOf]; omega
          · obtain rfl : m = n := by omega
            have hlt2 : ¬ (m : Int) < (m : Int) := by omega
            have hbf := fun V (h : PnM w V q g m cap i j k (trn zs m)) => best_val i j k (some ⟨g, 0, none⟩) cap m (trn zs m) V h.sh.vals h.len.1 (by omega) (by rw [HLZ.out]; exact okP_trn HOK.out)
            have h4 := HL4.out
            rw [← HLZ.out] at h4
            have d4 : decide (bv ≤ (best k (trn zs m) i j).v) = true := by simpa using h4
            generalize (best k (trn zs m) i j).v = yv at *
            have HBF := Lib.hid hbf
            clear hbf h4
            go_wp2_with (go_at_call 23; (with_reducible refine (HBF.out _ HP.out).mono ?_); rintro e w11 ⟨v11, rfl, hb11⟩)
            go_ret
            exact ⟨rfl, below2 HP.out.bel hb11⟩
      | true =>
        have e1 : ckE i j k wz = 0 := by unfold ckE; rw [hokw]; rfl
        rw [e1] at hck
        have HCK := Lib.hid hck
        have HBW := Lib.hid (fun V (h : Below wc.heap.size wc V) => best_val i j k (some ⟨g6, 0, none⟩) c6 (n + 1) wz V (HT.out.keep h) hzl (by omega) hokw)
        have d3 : decide ((best k wz i j).v < bv) = false := by simp; omega
        generalize (best k wz i j).v = xv at *
        clear hck hokw e1 hl3 hzl hwz
        go_upto_region 11 with (go_at_call 17; refine (HCK.out _ hrfl.out).mono ?_; rintro e w9 ⟨rfl, hb9⟩)
        have HP8a := Lib.hid (HP7.out.keep hb9)
        clear p0 p1 p2 p3
        obtain ⟨p0, p1, p2, p3⟩ := HP8a.out.cells
        go_upto_region 14 with (go_at_call 23; (with_reducible refine (HBW.out _ hb9).mono ?_); rintro e w10 ⟨v10, rfl, hb10⟩)
        have HP8 := Lib.hid (HP8a.out.keep hb10)
        clear hb9 hb10 HP7 HP8a HT p0 p1 p2 p3 HCK HBW hrfl d3
        have HP9 : Hid (PnM w w10 q g n cap i j k (trn zs 0)) := Lib.hid (by rw [trn_zero]; exact HP8.out)
        clear HP8
        go_upto_region 15 with (fail)
        go_loopw [19] (fun t wr => ∃ m : Nat, m ≤ n ∧ t = .int .i64 (m : Int) ∧ Hid (PnM w wr q g n cap i j k (trn zs m))) (fun t _ => n - (intOf t).toNat)
        case atStart => exact ⟨0, Nat.zero_le _, rfl, HP9⟩
        case round =>
          clear HP9
          obtain ⟨m, hmn, rfl, HP⟩ := hrel
          obtain ⟨p0, p1, p2, p3⟩ := HP.out.cells
          by_cases hlt : m < n
          · have hlt2 : (m : Int) < (n : Int) := by omega
            have hmz : m < zs.length := by have := HLZ.out; omega
            obtain ⟨c0, c1, c2, c3⟩ := HP.out.at_ (m := m) (by rw [trn_len]; exact hmz)
            have ff := HP.out.sh.frozen
            have HPN := Lib.hid (HP.out.setT hmz)
            clear c0 c1 c2
            go_wp2_with (fail)
            go_roundw
            case rel => exact ⟨m + 1, by omega, by go_num, HPN⟩
            case measure => simp [intOf]; omega
          · obtain rfl : m = n := by omega
            have hlt2 : ¬ (m : Int) < (m : Int) := by omega
            have hbf := fun V (h : PnM w V q g m cap i j k (trn zs m)) => best_val i j k (some ⟨g, 0, none⟩) cap m (trn zs m) V h.sh.vals h.len.1 (by omega) (by rw [HLZ.out]; exact okP_trn HOK.out)
            have h4 := HL4.out
            rw [← HLZ.out] at h4
            have d4 : decide (bv ≤ (best k (trn zs m) i j).v) = true := by simpa using h4
            generalize (best k (trn zs m) i j).v = yv at *
            have HBF := Lib.hid hbf
            clear hbf h4
            go_wp2_with (go_at_call 23; (with_reducible refine (HBF.out _ HP.out).mono ?_); rintro e w11 ⟨v11, rfl, hb11⟩)
            go_ret
            exact ⟨rfl, below2 HP.out.bel hb11⟩
end Go.Proofs.Ytkfjlgjncaddpaa
