/- valueAt, areValues, Slack. -/
import Derived.Test.YtpaemlkikkcjiaaWRef
import Derived.Test.YtpaemlkikkcjiaaWRest
namespace Go.Proofs.Ytpaemlkikkcjiaa
open Go.RowKit

theorem valueAt_any (A : Option Addr) (c n : Nat) (f : Nat → Int) (a : Int) (w : World) (h : Vals w A (fl f n)) (ha : -1 ≤ a) (ha2 : a ≤ (n : Int) - 1) :
    Calls Try.prog 65 #[.slice A n c, .int .i64 a] w fun e w' => e = .returned (.int .i64 (atX f a)) ∧ w = w' := by
  by_cases h0 : a < 0
  · have e : atX f a = 0 := by unfold atX; rw [if_pos h0]
    obtain rfl : a = -1 := by omega
    rw [e]
    clear h e
    go_enter Try.func65, Try.ntmps65
    go_wp2
    go_ret
    exact ⟨rfl, rfl⟩
  · obtain ⟨k, rfl⟩ : ∃ k : Nat, a = (k : Int) := ⟨a.toNat, by omega⟩
    obtain ⟨g, off, rfl, hg, hc⟩ := fl_vals h (i := k) (by omega)
    have e : atX f (k : Int) = f k := by unfold atX; rw [if_neg h0]; simp
    have hkn : (k : Int) < (n : Int) := by omega
    have hkn2 : k < n := by omega
    have hne : ((k : Int) == -1) = false := by rw [beq_eq_false_iff_ne]; omega
    rw [e]
    clear h e
    go_enter Try.func65, Try.ntmps65
    go_wp2
    go_ret
    exact ⟨rfl, rfl⟩

/-- Values from 0 to 10^9. -/
def vB (f : Nat → Int) (n : Nat) : Bool := (List.range n).all fun i => inB (f i) 0 1000000000
theorem vB_ok {f : Nat → Int} {n : Nat} (h : ∀ i, i < n → inB (f i) 0 1000000000 = true) : vB f n = true := by
  unfold vB
  rw [List.all_eq_true]
  intro i hi
  exact h i (List.mem_range.1 hi)
theorem vB_bad {f : Nat → Int} {n i : Nat} (hi : i < n) (h : inB (f i) 0 1000000000 = false) : vB f n = false := by
  cases hb : vB f n
  · rfl
  · have := List.all_eq_true.1 hb i (List.mem_range.2 hi)
    rw [h] at this; cases this
theorem vB_at {f : Nat → Int} {n i : Nat} (h : vB f n = true) (hi : i < n) : 0 ≤ f i ∧ f i ≤ 1000000000 := inB_t (List.all_eq_true.1 h i (List.mem_range.2 hi))
theorem vB_succ (f : Nat → Int) (n : Nat) : vB f (n + 1) = (vB f n && inB (f n) 0 1000000000) := by unfold vB; rw [List.range_succ]; simp

theorem clo81_any (x : Int) (w : World) : Calls Try.prog 81 #[.int .i64 x] w fun e w' => e = .returned (.bool (!inB x 0 1000000000)) ∧ w' = w := by
  have h := within_any x 0 1000000000
  generalize inB x 0 1000000000 = b at *
  have H := Lib.hid h
  clear h
  go_enter Try.func81, Try.ntmps81
  go_wp2_with (go_at_call 61; (with_reducible refine (H.out _).mono ?_); rintro e w1 ⟨rfl, rfl⟩)
  go_ret
  exact ⟨rfl, rfl⟩
set_option maxHeartbeats 2000000 in
set_option maxRecDepth 100000 in
theorem idx85_any (A : Option Addr) (c n : Nat) (f : Nat → Int) (w : World) (h : Vals w A (fl f n)) (hn : n ≤ 1000) :
    Calls Try.prog 85 #[.slice A n c, .func (.func 81) #[] #[]] w fun e w' => (∃ x : Int, e = .returned (.int .i64 x) ∧ decide (0 ≤ x) = !vB f n) ∧ w' = w := by
  have HM := Lib.hid h
  clear h
  go_enter Try.func85, Try.ntmps85
  go_wp2_with (fail)
  go_loopw [5, 8] (fun _ t wr => ∃ k : Nat, k ≤ n ∧ t = .int .i64 (k : Int) ∧ Hid (∀ j, j < k → inB (f j) 0 1000000000 = true) ∧ wr = w) (fun _ t _ => n - (intOf t).toNat)
  case atStart => exact ⟨0, Nat.zero_le _, rfl, Lib.hid (fun j hj => by omega), rfl⟩
  case round =>
    obtain ⟨k, hk, rfl, HA, rfl⟩ := hrel
    by_cases hlt : k < n
    · obtain ⟨g, off, rfl, hg, hc⟩ := fl_vals HM.out hlt
      have hlt2 : (k : Int) < (n : Int) := by omega
      have hmv := clo81_any (f k) wr
      cases hmb : inB (f k) 0 1000000000 with
      | false =>
        rw [hmb] at hmv
        have HMV := Lib.hid hmv
        have HR := Lib.hid (vB_bad hlt hmb)
        clear hmv hmb
        generalize f k = fk at *
        go_wp2_with (go_at_call 81; refine (HMV.out).mono ?_; rintro e w1 ⟨rfl, rfl⟩)
        go_ret
        refine ⟨⟨(k : Int), rfl, ?_⟩, rfl⟩
        rw [HR.out]; simp
      | true =>
        rw [hmb] at hmv
        have HMV := Lib.hid hmv
        have HN := Lib.hid (show ∀ j, j < k + 1 → inB (f j) 0 1000000000 = true from fun j hj => by
          by_cases e : j = k
          · rw [e]; exact hmb
          · exact HA.out j (by omega))
        clear hmv hmb
        generalize f k = fk at *
        go_wp2_with (go_at_call 81; refine (HMV.out).mono ?_; rintro e w1 ⟨rfl, rfl⟩)
        go_roundw
        case rel => exact ⟨k + 1, by omega, by go_num, HN, trivial⟩
        case measure => simp [intOf]; omega
    · obtain rfl : k = n := by omega
      have hr := vB_ok HA.out
      have HR := Lib.hid hr
      clear hr
      go_wp2
      go_ret
      refine ⟨⟨-1, rfl, ?_⟩, rfl⟩
      rw [HR.out]; simp
theorem areValues_any (A : Option Addr) (c n : Nat) (f : Nat → Int) (w : World) (h : Vals w A (fl f n)) (hn : n ≤ 1000) :
    Calls Try.prog 64 #[.slice A n c] w fun e w' => e = .returned (.bool (vB f n)) ∧ w' = w := by
  have hi := idx85_any A c n f w h hn
  have H := Lib.hid hi
  clear hi h
  have hc : Calls Try.prog 80 #[.slice A n c, .func (.func 81) #[] #[]] w fun e w' => e = .returned (.bool (!vB f n)) ∧ w' = w := by
    go_enter Try.func80, Try.ntmps80
    go_wp2_with (go_at_call 85; refine (H.out).mono ?_; rintro e w1 ⟨⟨x, rfl, hx⟩, rfl⟩)
    go_ret
    exact ⟨by rw [← hx]; rfl, rfl⟩
  have HC := Lib.hid hc
  clear hc H
  go_enter Try.func64, Try.ntmps64
  go_wp2_with (go_at_call 80; refine (HC.out).mono ?_; rintro e w1 ⟨rfl, rfl⟩)
  go_ret
  exact ⟨by simp, rfl⟩

/-- What a tie leaves. -/
def slk (f : Nat → Int) (t : T3) : Int := atX f t.b - atX f t.a - t.l
def slF (f : Nat → Int) (ts : List T3) (j : Nat) : Int := match ts[j]? with | some t => slk f t | none => 0
theorem slF_at {f : Nat → Int} {ts : List T3} {j : Nat} {t : T3} (h : ts[j]? = some t) : slF f ts j = slk f t := by unfold slF; rw [h]
def upTo (s : Nat → Int) (i : Nat) : Nat → Int := fun j => if j < i then s j else 0
theorem upTo_succ (s : Nat → Int) (i : Nat) : upd (upTo s i) i (s i) = upTo s (i + 1) := by
  funext j
  unfold upd upTo
  by_cases h : j = i
  · rw [if_pos h, if_pos (by omega), h]
  · rw [if_neg h]
    by_cases h2 : j < i
    · rw [if_pos h2, if_pos (by omega)]
    · rw [if_neg h2, if_neg (by omega)]
def slkB (n : Int) (ts : List T3) (f : Nat → Int) (m : Nat) : Bool := regB n ts && (decide ((m : Int) = n) && vB f m)
def SlkPost (n : Int) (ts : List T3) (f : Nat → Int) (m : Nat) (w : World) (e : Ending) (w' : World) : Prop :=
  Below w.heap.size w w' ∧ ((slkB n ts f m = false ∧ e = .returned (.tuple #[.slice none 0 0, .int .i64 1])) ∨
    (slkB n ts f m = true ∧ ∃ g, e = .returned (.tuple #[.slice (some ⟨g, 0, none⟩) ts.length ts.length, .int .i64 0]) ∧ Vals w' (some ⟨g, 0, none⟩) (fl (slF f ts) ts.length)))
theorem vx_bd {f : Nat → Int} {n : Nat} {a : Int} (h : vB f n = true) (h2 : a ≤ (n : Int) - 1) : 0 ≤ atX f a ∧ atX f a ≤ 1000000000 := by
  unfold atX
  split
  · omega
  · exact vB_at h (by omega)
set_option maxHeartbeats 4000000 in
set_option maxRecDepth 100000 in
theorem slack_any (n : Int) (ad : Addr) (A' : Option Addr) (c c' L m : Nat) (ts : List T3) (f : Nat → Int) (w : World) (hA : TiesAt w (some ad) ts) (hL : L = ts.length) (hA' : Vals w A' (fl f m))
    (hn : -9223372036854775808 ≤ n ∧ n ≤ 9223372036854775807) (hLs : L ≤ 1000) (hm : m ≤ 1000) :
    Calls Try.prog 34 #[.int .i64 n, .slice (some ad) L c, .slice A' m c'] w (SlkPost n ts f m w) := by
  have hck := isReg_any n (some ad) c L ts w hA hL hn (by omega)
  have hav := fun W (hW : Below w.heap.size w W) => areValues_any A' c' m f W (hA'.keep hW) hm
  cases hr : regB n ts with
  | false =>
    rw [hr] at hck
    have HC := Lib.hid hck
    have HR : Hid (slkB n ts f m = false) := Lib.hid (by unfold slkB; rw [hr]; rfl)
    clear hck hr hA hL hA' hav
    go_enter Try.func34, Try.ntmps34
    go_wp2_with (go_at_call 54; refine (HC.out).mono ?_; rintro e w1 ⟨rfl, hb⟩)
    go_ret2
    exact ⟨hb, .inl ⟨HR.out, rfl⟩⟩
  | true =>
    rw [hr] at hck
    have HC := Lib.hid hck
    by_cases hmn : (m : Int) = n
    · subst hmn
      have HAV := Lib.hid hav
      cases hv : vB f m with
      | false =>
        have HR : Hid (slkB (m : Int) ts f m = false) := Lib.hid (by unfold slkB; rw [hv]; simp)
        have HV := Lib.hid hv
        have hd : ((m : Int) != (m : Int)) = false := by simp
        clear hck hr hA hL hA' hav hv
        go_enter Try.func34, Try.ntmps34
        go_wp2_with (first
          | (go_at_call 54; refine (HC.out).mono ?_; rintro e w1 ⟨rfl, hb⟩)
          | (go_at_call 64; refine (HAV.out _ hb).mono ?_; rw [HV.out]; rintro e w2 ⟨rfl, rfl⟩))
        go_ret2
        exact ⟨hb, .inl ⟨HR.out, rfl⟩⟩
      | true =>
        obtain ⟨k, hk, h1, h2, h3, ho⟩ := regB_ok hr
        obtain rfl : k = m := by omega
        have HR : Hid (slkB (k : Int) ts f k = true) := Lib.hid (by unfold slkB; rw [hv, hr]; simp)
        have HV := Lib.hid hv
        have hd : ((k : Int) != (k : Int)) = false := by simp
        have hmk : ∀ W, (Instr.makeSlice 24 (.int .i64 (L : Int)) (.int .i64 (L : Int))).run Try.prog W = .ok (.slice (some ⟨W.heap.size, 0, none⟩) L L) (W.alloc (.cells (Array.replicate L (.int .i64 0)) 3)) := fun W => makeI L (by omega) W
        have HO := Lib.hid ho
        have HA := Lib.hid hA
        have HA' := Lib.hid hA'
        have HL := Lib.hid hL
        clear hck hr hA hL hA' hav hv ho hk
        go_enter Try.func34, Try.ntmps34
        go_upto_region 3 with (first
          | (go_at_call 54; refine (HC.out).mono ?_; rintro e w1 ⟨rfl, hb⟩)
          | (go_at_call 64; refine (HAV.out _ hb).mono ?_; rw [HV.out]; rintro e w2 ⟨rfl, rfl⟩))
        have HA2 := Lib.hid (HA.out.keep hb)
        have HA3 := Lib.hid (Vals.keep HA'.out hb)
        clear HA HA' HC HAV
        go_wp2_with (fail)
        have hm0 : RefM w2.heap.size w2.heap.size L w2 (w2.alloc (.cells (Array.replicate L (.int .i64 0)) 3)) (upTo (slF f ts) 0) := ⟨by
          have : upTo (slF f ts) 0 = fun _ => 0 := by funext j; unfold upTo; rw [if_neg (by omega)]
          rw [this]; exact blk_fl0 L w2, below_new w2 _⟩
        have HM0 := Lib.hid hm0
        clear hm0 hmk
        generalize w2.alloc (.cells (Array.replicate L (.int .i64 0)) 3) = W0 at *
        obtain ⟨gx, hgx⟩ : ∃ gx, gx = w2.heap.size := ⟨_, rfl⟩
        have HGX := Lib.hid hgx
        rw [← hgx]
        rw [← hgx] at HM0
        clear hgx
        go_loopw [9, 10, 31] (fun _ _ t wr => ∃ i : Nat, i ≤ L ∧ t = .int .i64 (i : Int) ∧ RefM gx gx L w2 wr (upTo (slF f ts) i)) (fun _ _ t _ => L - (intOf t).toNat)
        case atStart => exact ⟨0, Nat.zero_le _, rfl, HM0.out⟩
        case round =>
          obtain ⟨i, hi, rfl, hm⟩ := hrel
          clear HM0
          by_cases hlt : i < L
          · obtain ⟨t, ht⟩ : ∃ t, ts[i]? = some t := ⟨ts[i]'(by have := HL.out; omega), List.getElem?_eq_getElem _⟩
            obtain ⟨a1, a2, a3, a4, a5, a6⟩ := HO.out t (List.mem_of_getElem? ht)
            have hsl := slF_at (f := f) ht
            have hup := upTo_succ (slF f ts) i
            rw [hsl] at hup
            have hbw2 : Below w2.heap.size w2 wr := HGX.out ▸ hm.bel
            have hTA := (HA2.out).keep hbw2
            have hXA := Vals.keep HA3.out hbw2
            obtain ⟨ga, off, e1, hga, c0, c1, c2⟩ := hTA.at_ ht
            injection e1 with e1
            subst e1
            have hlt3 : (i : Int) < (L : Int) := by omega
            have hlx : gx < wr.heap.size := hm.blk.lt
            obtain ⟨hblk, hbel⟩ := hm
            have HUP := Lib.hid hup
            have hpa := vx_bd HV.out a2
            have hpb := vx_bd HV.out a4
            obtain ⟨ta, tb, tl⟩ := t
            simp only at a1 a2 a3 a4 a5 a6 c0 c1 c2 hpa hpb
            clear hup hsl ht hTA hbw2
            go_wp2_with (fail)
            have hq : Blk 39 (wr.alloc (.cells #[.int .i64 ta, .int .i64 tb, .int .i64 tl] 39)) wr.heap.size [.int .i64 ta, .int .i64 tb, .int .i64 tl] := Blk.new wr 39 _
            have hbn := below_new wr (.cells #[.int .i64 ta, .int .i64 tb, .int .i64 tl] 39)
            have hblk2 := (hblk.keep hbn).drew
            have hbel2 : Below gx w2 (wr.alloc (.cells #[.int .i64 ta, .int .i64 tb, .int .i64 tl] 39)).drew := (below_on hbel (by omega) hbn).drew
            have hXA2 := Vals.drew (Vals.keep hXA hbn)
            have hqx : wr.heap.size ≠ gx := by omega
            have c0 : (wr.alloc (.cells #[.int .i64 ta, .int .i64 tb, .int .i64 tl] 39)).cell? ⟨wr.heap.size, 0, none⟩ = some (.int .i64 ta) := hq.cell 0
            have c1 : (wr.alloc (.cells #[.int .i64 ta, .int .i64 tb, .int .i64 tl] 39)).cell? ⟨wr.heap.size, 1, none⟩ = some (.int .i64 tb) := hq.cell 1
            have c2 : (wr.alloc (.cells #[.int .i64 ta, .int .i64 tb, .int .i64 tl] 39)).cell? ⟨wr.heap.size, 2, none⟩ = some (.int .i64 tl) := hq.cell 2
            clear hblk hbel hbn hga hlx hq hXA
            generalize wr.alloc (.cells #[.int .i64 ta, .int .i64 tb, .int .i64 tl] 39) = W at *
            generalize wr.heap.size = q at *
            have ca := valueAt_any A' c' k f ta W.drew hXA2 a1 a2
            have cb := valueAt_any A' c' k f tb W.drew hXA2 a3 a4
            have e0 : slk f ⟨ta, tb, tl⟩ = atX f tb - atX f ta - tl := rfl
            rw [e0] at HUP
            generalize hxa : atX f ta = xa at *
            generalize hxb : atX f tb = xb at *
            have hs1 : IntKind.i64.wrap (xb - xa) = xb - xa := wrapI (by omega) (by omega)
            have hs2 : IntKind.i64.wrap (xb - xa - tl) = xb - xa - tl := wrapI (by omega) (by omega)
            have HCA := Lib.hid ca
            have HCB := Lib.hid cb
            have HB2 := Lib.hid hblk2
            have HE2 := Lib.hid hbel2
            clear ca cb hblk2 hbel2 hXA2 hxa hxb e0
            go_still_tail 14, (by kernel_rfl)
            still_call (HCB.out.mono fun _ _ ⟨he, hm⟩ => ⟨he, hm.symm⟩)
            repeat still_step
            still_call (HCA.out.mono fun _ _ ⟨he, hm⟩ => ⟨he, hm.symm⟩)
            repeat still_step
            refine wpStill_nil ?_
            change wpList _ _ _ _ _ W.drew
            clear c0 c1 c2 HCA HCB
            generalize W.drew = V2 at *
            have cz := HB2.out.int hlt
            have f1 := HB2.out.frozen
            go_wp2_with (fail)
            go_roundw
            case rel => exact ⟨i + 1, by omega, by go_num, by rw [← HUP.out]; exact ⟨HB2.out.setI i _, below_set HE2.out (Nat.le_refl _) _⟩⟩
            case measure => simp [intOf]; omega
          · obtain rfl : i = L := by omega
            have hv3 := hm.blk.vals0
            have HV3 := Lib.hid hv3
            have hb3 : Below w2.heap.size w2 wr := HGX.out ▸ hm.bel
            clear hv3 hm
            go_wp2_with (fail)
            go_ret2
            refine ⟨below_on hb hb.size hb3, .inr ⟨HR.out, gx, by rw [HL.out]; rfl, ?_⟩⟩
            rw [← HL.out]
            have e : fl (slF f ts) i = fl (upTo (slF f ts) i) i := fl_congr fun j hj => by unfold upTo; rw [if_pos hj]
            rw [e]; exact HV3.out
    · have HR : Hid (slkB n ts f m = false) := Lib.hid (by unfold slkB; simp [hmn])
      have hd : ((m : Int) != n) = true := by simpa using hmn
      clear hck hr hA hL hA' hav hmn
      go_enter Try.func34, Try.ntmps34
      go_wp2_with (go_at_call 54; refine (HC.out).mono ?_; rintro e w1 ⟨rfl, hb⟩)
      go_ret2
      exact ⟨hb, .inl ⟨HR.out, rfl⟩⟩
end Go.Proofs.Ytpaemlkikkcjiaa
