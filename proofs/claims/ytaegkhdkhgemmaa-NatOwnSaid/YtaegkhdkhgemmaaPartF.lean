/- Part of the proof of NatOwn: Lead, RefC, RefAdd, Apply, DivO, GcdW, KarLaws, KarW, Kara. -/
import Derived.Test.YtaegkhdkhgemmaaPartE
import Derived.Test.YtaegkhdkhgemmaaPartB
import Derived.Test.YtaegkhdkhgemmaaPartC
import Derived.Laws.Rows
import Derived.BigQuiet
import Derived.Test.YtaegkhdkhgemmaaPartD
import Derived.StillTailTactics
namespace Go.Proofs.Ytaegkhdkhgemmaa
open Go.RowKit Num

/-- A structure of four numbers in a block of the call's own. -/
def Four (w : World) (g : Nat) (p q s t : Int) : Prop := w.heap[g]? = some (.cells #[.int .i64 p, .int .i64 q, .int .i64 s, .int .i64 t] 129 (0, 0))
theorem Four.c0 {w : World} {g : Nat} {p q s t : Int} (h : Four w g p q s t) : w.cell? ⟨g, 0, none⟩ = some (.int .i64 p) := by unfold Four at h; simp [World.cell?, h]
theorem Four.c1 {w : World} {g : Nat} {p q s t : Int} (h : Four w g p q s t) : w.cell? ⟨g, 1, none⟩ = some (.int .i64 q) := by unfold Four at h; simp [World.cell?, h]
theorem Four.c2 {w : World} {g : Nat} {p q s t : Int} (h : Four w g p q s t) : w.cell? ⟨g, 2, none⟩ = some (.int .i64 s) := by unfold Four at h; simp [World.cell?, h]
theorem Four.c3 {w : World} {g : Nat} {p q s t : Int} (h : Four w g p q s t) : w.cell? ⟨g, 3, none⟩ = some (.int .i64 t) := by unfold Four at h; simp [World.cell?, h]
theorem Four.frozen {w : World} {g : Nat} {p q s t : Int} (h : Four w g p q s t) (i : Nat) : w.frozen? ⟨g, i, none⟩ = false := by unfold Four at h; simp [World.frozen?, h]
theorem Four.set {w : World} {g : Nat} {p q s t : Int} (h : Four w g p q s t) (p' q' s' t' : Int) :
    Four ((((w.setCell ⟨g, 0, none⟩ (.int .i64 p')).setCell ⟨g, 1, none⟩ (.int .i64 q')).setCell ⟨g, 2, none⟩ (.int .i64 s')).setCell ⟨g, 3, none⟩ (.int .i64 t')) g p' q' s' t' := by
  unfold Four at *
  simp [World.setCell, Array.getElem?_modify, h]
theorem Four.other {w : World} {g g' : Nat} {p q s t : Int} (h : Four w g p q s t) (hg : g ≠ g') (a b c d : Value) :
    Four ((((w.setCell ⟨g', 0, none⟩ a).setCell ⟨g', 1, none⟩ b).setCell ⟨g', 2, none⟩ c).setCell ⟨g', 3, none⟩ d) g p q s t := by
  unfold Four at *
  simp [World.setCell, Array.getElem?_modify, h, hg.symm]

theorem und129 : (Try.prog.underlying 129).map (fun d => match d with | .struct _ | .array _ _ => true | _ => false) = some true := by kernel_rfl
theorem size129 : (Try.prog.info? 129).map (·.size) = some 4 := by kernel_rfl
theorem Four.results {fn : Func} {w : World} {g : Nat} {p q s t : Int} (h : Four w g p q s t) {k : Nat} (hr : fn.results = #[.cell k 129]) (tmps : Array Value) (hp : tmps.getD k undef = .pointer (some ⟨g, 0, none⟩)) :
    (results fn tmps).run Try.prog w = .ok (.agg #[.int .i64 p, .int .i64 q, .int .i64 s, .int .i64 t]) w := by
  obtain ⟨d, hd, hm⟩ := Option.map_eq_some_iff.1 und129
  cases d <;> first | exact results_cell_row hr tmps w g 129 _ (0, 0) _ hp h hd rfl size129 | exact absurd hm (by simp)

/-- What leadingSteps gives. -/
def LeadPost (m n : Nat) (M : Int) (w : World) (e : Ending) (w' : World) : Prop :=
  ∃ (F x y p q s t : Int) (a b : Nat), e = .returned (.agg #[.int .i64 p, .int .i64 q, .int .i64 s, .int .i64 t]) ∧ Num.Leh m n F M x y p q s t a b ∧ Below w.heap.size w w'

set_option maxHeartbeats 4000000 in
set_option maxRecDepth 100000 in
theorem lead_core (A A' : Option Addr) (c c' L L' m n nb f x y : Nat) (F M : Int) (hM : M ≤ 4611686018427387904) (w : World)
   (hl0 : Num.Leh m n F M x y 1 0 0 1 m n)
   (hf : max (wrap64 ((nb : Int) - 62)) 0 = (f : Int)) (x1 : IntKind.i64.wrap (x : Int) = x) (y1 : IntKind.i64.wrap (y : Int) = y) (hb : ∀ w1 : World, Below w.heap.size w w1 → Calls Try.prog 91 #[.slice A L c] w1 fun e w' => e = .returned (.int .i64 (nb : Nat)) ∧ w1 = w')
   (hx : ∀ w1 : World, Below w.heap.size w w1 → Calls Try.prog 77 #[.slice A L c, .int .i64 (f : Int)] w1 fun e w' => e = .returned (.int .u64 (x : Nat)) ∧ w1 = w')
   (hy : ∀ w1 : World, Below w.heap.size w w1 → Calls Try.prog 77 #[.slice A' L' c', .int .i64 (f : Int)] w1 fun e w' => e = .returned (.int .u64 (y : Nat)) ∧ w1 = w') :
    Calls Try.prog 119 #[.slice A L c, .slice A' L' c'] w (LeadPost m n M w) := by
  have HB := Lib.hid hb
  have HX := Lib.hid hx
  have HY := Lib.hid hy
  have HL0 := Lib.hid hl0
  have HM := Lib.hid hM
  clear hb hx hy hl0 hM
  have hbA := below_new w (Obj.cells #[.int .i64 0, .int .i64 0, .int .i64 0, .int .i64 0] 129)
  go_enter Try.func119, Try.ntmps119
  go_wp2_with (fail)
  refine (HB.out _ hbA).mono ?_
  rintro e w1 ⟨rfl, rfl⟩
  go_wp2_with (fail)
  refine (HX.out _ hbA).mono ?_
  rintro e w1 ⟨rfl, rfl⟩
  go_wp2_with (fail)
  refine (HY.out _ hbA).mono ?_
  rintro e w1 ⟨rfl, rfl⟩
  go_wp2
  clear hf x1 y1
  go_loopw [6, 7] (fun xv yv wr => ∃ (X Y p q s t : Int) (a b : Nat), xv = .int .i64 X ∧ yv = .int .i64 Y ∧ Num.Leh m n F M X Y p q s t a b ∧ Four wr (w.heap.size + 1) p q s t ∧ Four wr w.heap.size 0 0 0 0 ∧ Below w.heap.size w wr) (fun _ yv _ => (intOf yv).toNat)
  case atStart =>
    refine ⟨_, _, 1, 0, 0, 1, m, n, rfl, rfl, HL0.out, ?_, ?_, ?_⟩
    · have := heap_alloc_new (w.alloc (Obj.cells #[.int .i64 0, .int .i64 0, .int .i64 0, .int .i64 0] 129)) (Obj.cells #[.int .i64 1, .int .i64 0, .int .i64 0, .int .i64 1] 129)
      simpa [Four] using this
    · unfold Four
      rw [(below_new (w.alloc (Obj.cells #[.int .i64 0, .int .i64 0, .int .i64 0, .int .i64 0] 129)) (Obj.cells #[.int .i64 1, .int .i64 0, .int .i64 0, .int .i64 1] 129)).block _ (by simp)]
      exact heap_alloc_new w _
    · exact ((Below.refl _ w).alloc (Nat.le_refl _) _).alloc (by simp) _
  case round =>
    obtain ⟨X, Y, p, q, s, t, a, b, rfl, rfl, hl, h4, h0, hbl⟩ := hrel
    have c0 := h4.c0
    have c1 := h4.c1
    have c2 := h4.c2
    have c3 := h4.c3
    have fr := h4.frozen
    have z0 := h0.c0
    have z1 := h0.c1
    have z2 := h0.c2
    have z3 := h0.c3
    have zr := h0.frozen
    obtain ⟨hX, hY, hp, hq, hs, ht, _⟩ := hl.small
    have hl' := hl
    obtain ⟨F0, xp, xq, ys, yt, _⟩ := hl'
    have hM := HM.out
    obtain ⟨YS, hYS⟩ : ∃ v, Y + s = v := ⟨_, rfl⟩
    obtain ⟨YT, hYT⟩ : ∃ v, Y + t = v := ⟨_, rfl⟩
    obtain ⟨XP, hXP⟩ : ∃ v, X + p = v := ⟨_, rfl⟩
    obtain ⟨XQ, hXQ⟩ : ∃ v, X + q = v := ⟨_, rfl⟩
    have w1 : IntKind.i64.wrap (Y + s) = YS := by rw [← hYS]; exact IntWalk.i64_in _ (by omega)
    have w2 : IntKind.i64.wrap (Y + t) = YT := by rw [← hYT]; exact IntWalk.i64_in _ (by omega)
    have w3 : IntKind.i64.wrap (X + p) = XP := by rw [← hXP]; exact IntWalk.i64_in _ (by omega)
    have w4 : IntKind.i64.wrap (X + q) = XQ := by rw [← hXQ]; exact IntWalk.i64_in _ (by omega)
    by_cases e1 : YS = 0
    · have k1 : (YS != 0) = false := by simpa using e1
      have HL := Lib.hid hl
      clear hl xp xq ys yt hYS hYT hXP hXQ hX hY hp hq hs ht hM
      go_wp2
      (try simp only [Exit.inBlock, Exit.then])
      refine bodyPost_ret (Four.results (h0.set p q s t) rfl _ rfl) rfl ?_
      exact ⟨F, X, Y, p, q, s, t, a, b, rfl, HL.out, (below_set (below_set (below_set (below_set hbl (Nat.le_refl _) _) (Nat.le_refl _) _) (Nat.le_refl _) _) (Nat.le_refl _) _)⟩
    · have k1 : (YS != 0) = true := by simpa using e1
      have k1' : (YS == 0) = false := by simpa using e1
      by_cases e2 : YT = 0
      · have k2 : (YT != 0) = false := by simpa using e2
        have HL := Lib.hid hl
        clear hl xp xq ys yt hYS hYT hXP hXQ hX hY hp hq hs ht hM
        go_wp2
        (try simp only [Exit.inBlock, Exit.then])
        refine bodyPost_ret (Four.results (h0.set p q s t) rfl _ rfl) rfl ?_
        exact ⟨F, X, Y, p, q, s, t, a, b, rfl, HL.out, (below_set (below_set (below_set (below_set hbl (Nat.le_refl _) _) (Nat.le_refl _) _) (Nat.le_refl _) _) (Nat.le_refl _) _)⟩
      · have k2 : (YT != 0) = true := by simpa using e2
        have k2' : (YT == 0) = false := by simpa using e2
        obtain ⟨d, hd⟩ : ∃ d, XP / YS = d := ⟨_, rfl⟩
        obtain ⟨d2, hd2⟩ : ∃ d, XQ / YT = d := ⟨_, rfl⟩
        have hdb := IntWalk.tdiv_le XP YS (by omega) (by omega)
        have hdb2 := IntWalk.tdiv_le XQ YT (by omega) (by omega)
        rw [hd] at hdb
        rw [hd2] at hdb2
        have t1 : XP.tdiv YS = d := by rw [Int.tdiv_eq_ediv_of_nonneg (by omega)]; exact hd
        have t2 : XQ.tdiv YT = d2 := by rw [Int.tdiv_eq_ediv_of_nonneg (by omega)]; exact hd2
        have u1 : IntKind.i64.wrap d = d := IntWalk.i64_in _ (by omega)
        have u2 : IntKind.i64.wrap d2 = d2 := IntWalk.i64_in _ (by omega)
        by_cases e3 : d = d2
        · subst e3
          have hst := hl.step (d := d) (by omega) (by omega) (by rw [hXP, hYS, hd]) (by rw [hXQ, hYT, hd2])
          obtain ⟨hst, hb0, hdec⟩ := hst
          obtain ⟨hX', hY', hp', hq', hs', ht', hsg'⟩ := hst.small
          obtain ⟨_, _, _, _, _, _, hsg⟩ := hl.small
          have zs : s = 0 → d * s = 0 := fun h => by rw [h, Int.mul_zero]
          have zt : t = 0 → d * t = 0 := fun h => by rw [h, Int.mul_zero]
          have v1 : IntKind.i64.wrap (d * s) = d * s := IntWalk.i64_in _ (by omega)
          have v2 : IntKind.i64.wrap (d * t) = d * t := IntWalk.i64_in _ (by omega)
          have v3 : IntKind.i64.wrap (d * Y) = d * Y := IntWalk.i64_in _ (by omega)
          obtain ⟨s', hs'e⟩ : ∃ v, p - d * s = v := ⟨_, rfl⟩
          obtain ⟨t', ht'e⟩ : ∃ v, q - d * t = v := ⟨_, rfl⟩
          obtain ⟨y', hy'e⟩ : ∃ v, X - d * Y = v := ⟨_, rfl⟩
          have v4 : IntKind.i64.wrap (p - d * s) = s' := by rw [← hs'e]; exact IntWalk.i64_in _ (by omega)
          have v5 : IntKind.i64.wrap (q - d * t) = t' := by rw [← ht'e]; exact IntWalk.i64_in _ (by omega)
          have v6 : IntKind.i64.wrap (X - d * Y) = y' := by rw [← hy'e]; exact IntWalk.i64_in _ (by omega)
          rw [hs'e, ht'e, hy'e] at hst
          rw [hy'e] at hdec
          have hfour := h4.set s t s' t'
          have hfour0 := h0.other (g' := w.heap.size + 1) (by omega) (.int .i64 s) (.int .i64 t) (.int .i64 s') (.int .i64 t')
          have HST := Lib.hid hst
          have HDC := Lib.hid (And.intro (show 0 ≤ y' by omega) hdec)
          clear zs zt hst hl xp xq ys yt hYS hYT hXP hXQ hX hY hp hq hs ht hM hX' hY' hp' hq' hs' ht' hsg' hsg hd hd2 hdb hdb2 hs'e ht'e hy'e hdec
          go_wp2
          go_roundw
          case rel => exact ⟨Y, y', s, t, s', t', b, a % b, rfl, rfl, HST.out, hfour, hfour0, (below_set (below_set (below_set (below_set hbl (Nat.le_succ _) _) (Nat.le_succ _) _) (Nat.le_succ _) _) (Nat.le_succ _) _)⟩
          case measure => have := HDC.out; simp only [intOf]; omega
        · have k3 : (d != d2) = true := by simpa using e3
          have HL := Lib.hid hl
          clear hl xp xq ys yt hYS hYT hXP hXQ hX hY hp hq hs ht e3 hM hd hd2 hdb hdb2
          go_wp2
          (try simp only [Exit.inBlock, Exit.then])
          refine bodyPost_ret (Four.results (h0.set p q s t) rfl _ rfl) rfl ?_
          exact ⟨F, X, Y, p, q, s, t, a, b, rfl, HL.out, (below_set (below_set (below_set (below_set hbl (Nat.le_refl _) _) (Nat.le_refl _) _) (Nat.le_refl _) _) (Nat.le_refl _) _)⟩

theorem i64_nat {k : Nat} (h : k < 4611686018427387904) : IntKind.i64.wrap (k : Int) = (k : Int) := IntWalk.i64_in _ (by omega)
/-- What leadingSteps gives, in numbers. -/
def StepsPost (m n : Nat) (w : World) (e : Ending) (w' : World) : Prop :=
  ∃ (p q s t : Int) (a b : Nat), e = .returned (.agg #[.int .i64 p, .int .i64 q, .int .i64 s, .int .i64 t]) ∧ Num.Steps m n p q s t a b ∧ Below w.heap.size w w'
theorem lead_any (a b : Value) (m n : Nat) (w : World) (ha : W64 w a m) (hb : W64 w b n) (hm : (dig B64 m).length ≤ 1000000) (hle : n ≤ m) :
    Calls Try.prog 119 #[a, b] w (StepsPost m n w) := by
  have hmono := dig_len_le b64_two (n := n) (k := (dig B64 m).length) (Nat.lt_of_le_of_lt hle (dig_len_lt b64_two))
  have hnb : nbits m ≤ 64 * (dig B64 m).length := nbits_le (by
    have h1 := dig_len_lt b64_two (n := m)
    have e : B64 ^ (dig B64 m).length = 2 ^ (64 * (dig B64 m).length) := by rw [Nat.pow_mul]; rfl
    omega)
  have hlt := nbits_lt m
  obtain ⟨f, hfe⟩ : ∃ f, nbits m - 62 = f := ⟨_, rfl⟩
  have hx : m / 2 ^ f < 4611686018427387904 := lead_places hlt (by omega)
  have hy : n / 2 ^ f ≤ m / 2 ^ f := Nat.div_le_div_right hle
  have hst := Num.Leh.start (F := 2 ^ f) (Nat.two_pow_pos f) hle
  obtain ⟨A, c, rfl, _, hA⟩ := ha
  obtain ⟨A', c', rfl, _, hB⟩ := hb
  have key := lead_core A A' c c' _ _ m n (nbits m) f (m / 2 ^ f) (n / 2 ^ f) ((2 ^ f : Nat) : Int) ((m / 2 ^ f : Nat) + 1) (by omega) w hst
    (by simp only [wrap64]; omega) (i64_nat hx) (i64_nat (Nat.lt_of_le_of_lt hy hx))
    (fun w1 hw => bits_any A c _ m w1 (hA.keep hw) rfl (by omega))
    (fun w1 hw => by
      have := window_any A c _ m f w1 (hA.keep hw) rfl (by omega) (by omega)
      rwa [Nat.mod_eq_of_lt (by unfold B64; omega)] at this)
    (fun w1 hw => by
      have := window_any A' c' _ n f w1 (hB.keep hw) rfl (by omega) (by omega)
      rwa [Nat.mod_eq_of_lt (by unfold B64; omega)] at this)
  refine key.mono ?_
  rintro e w' ⟨F, x, y, p, q, s, t, a, b, rfl, hl, hb⟩
  exact ⟨p, q, s, t, a, b, rfl, hl.steps (by omega), hb⟩
end Go.Proofs.Ytaegkhdkhgemmaa

namespace Go.Proofs.Ytaegkhdkhgemmaa
open Go.RowKit Num

set_option maxHeartbeats 1000000 in
theorem refCmp_any (A A' : Option Addr) (c c' L L' m n : Nat) (w : World) (h : Nums .u32 w A (dig B32 m)) (h' : Nums .u32 w A' (dig B32 n)) (hL : L = (dig B32 m).length) (hL' : L' = (dig B32 n).length) (hl : L ≤ 1000000000000) (hl' : L' ≤ 1000000000000) :
    Calls Try.prog 42 #[.slice A L c, .slice A' L' c'] w fun e w' => e = .returned (.int .i64 (cmpN m n)) ∧ Below w.heap.size w w' := by
  obtain ⟨r, hr⟩ : ∃ r, cmpN m n = r := ⟨_, rfl⟩
  rw [hr]
  by_cases hne : L = L'
  · subst hne
    have HL := Lib.hid hL
    have HL' := Lib.hid hL'
    have HR := Lib.hid hr
    clear hL hL' hr
    go_enter Try.func42, Try.ntmps42
    go_wp2
    go_loopw [5] (fun t wr => ∃ k : Nat, k ≤ L ∧ t = .int .i64 ((k : Int) - 1) ∧ Hid (m / B32 ^ k = n / B32 ^ k) ∧ Below w.heap.size w wr) (fun t _ => (intOf t + 1).toNat)
    case atStart => exact ⟨L, Nat.le_refl _, rfl, Lib.hid (by rw [div_pow_len b32_two (by rw [← HL.out]; exact Nat.le_refl _), div_pow_len b32_two (by rw [← HL'.out]; exact Nat.le_refl _)]), Below.refl _ _⟩
    case round =>
      obtain ⟨k, hk, rfl, hd, hb⟩ := hrel
      by_cases h0 : k = 0
      · subst h0
        have hmn : m = n := by have := hd.out; simpa using this
        have hr0 : r = 0 := by have := HR.out; rw [hmn, cmpN_eq] at this; exact this.symm
        have H0 := Lib.hid hr0
        clear hmn hr0
        go_wp2
        go_ret
        exact ⟨ret_i H0.out.symm, hb⟩
      · obtain ⟨j, rfl⟩ : ∃ j, k = j + 1 := ⟨k - 1, by omega⟩
        obtain ⟨g, off, x, rfl, hg, hx, hcx⟩ := (h.keep hb).at_ (i := j) (by have := HL.out; omega)
        obtain ⟨g', off', y, rfl, hg', hy, hcy⟩ := (h'.keep hb).at_ (i := j) (by have := HL'.out; omega)
        clear h h'
        rcases Nat.lt_trichotomy x y with hxy | hxy | hxy
        · have hc : r = -1 := by rw [← HR.out]; exact cmpN_lt (lt_of_digit b32_two hx hy hd.out hxy)
          have HC := Lib.hid hc
          clear hc hx hy
          go_wp2
          go_quiet (fail)
          go_wp2
          go_ret
          exact ⟨ret_i HC.out.symm, below_drewN hb _⟩
        · have hd' : m / B32 ^ j = n / B32 ^ j := eq_step b32_two hx (by rw [hxy]; exact hy) hd.out
          have HD := Lib.hid hd'
          have h1 : ¬ x < y := by omega
          have h2 : ¬ y < x := by omega
          clear hxy hd' hx hy
          go_wp2
          go_quiet (fail)
          go_wp2
          go_quiet (fail)
          go_wp2
          go_roundw
          case rel => exact ⟨j, by omega, by congr 1, HD, below_drewN hb _⟩
          case measure => simp [intOf]
        · have hc : r = 1 := by rw [← HR.out]; exact cmpN_gt (lt_of_digit b32_two hy hx hd.out.symm hxy)
          have HC := Lib.hid hc
          have h1 : ¬ x < y := by omega
          clear hc hx hy
          go_wp2
          go_quiet (fail)
          go_wp2
          go_quiet (fail)
          go_wp2
          go_ret
          exact ⟨ret_i HC.out.symm, below_drewN (below_drewN hb _) _⟩
  · have hn' : ((L : Int) != (L' : Int)) = true := by simp; omega
    have hc : cmpN L L' = r := by rw [← hr, hL, hL'] at *; exact cmp_of_len b32_two hne
    have HC := Lib.hid hc
    clear hc h h' hL hL' hr
    by_cases hlt : L < L'
    · have hr1 : r = -1 := by rw [← HC.out]; exact cmpN_lt hlt
      have H1 := Lib.hid hr1
      clear hr1
      go_enter Try.func42, Try.ntmps42
      go_wp2
      go_ret
      exact ⟨ret_i H1.out.symm, Below.refl _ _⟩
    · have hr1 : r = 1 := by rw [← HC.out]; exact cmpN_gt (by omega)
      have H1 := Lib.hid hr1
      clear hr1
      go_enter Try.func42, Try.ntmps42
      go_wp2
      go_ret
      exact ⟨ret_i H1.out.symm, Below.refl _ _⟩

theorem refCmp_call (a b : Value) (m n : Nat) (w : World) (ha : N32 w a m) (hb : N32 w b n) (hm : (dig B32 m).length ≤ 1000000000) (hn : (dig B32 n).length ≤ 1000000000) :
    Calls Try.prog 42 #[a, b] w fun e w' => e = .returned (.int .i64 (cmpN m n)) ∧ Below w.heap.size w w' := by
  obtain ⟨A, c, rfl, _, hA⟩ := ha
  obtain ⟨A', c', rfl, _, hA'⟩ := hb
  exact refCmp_any A A' c c' _ _ m n w hA hA' rfl rfl (by omega) (by omega)

set_option maxHeartbeats 400000 in
/-- at: limb i, or 0 beyond the end. -/
theorem at_any (A : Option Addr) (c L i : Nat) (xs : List Nat) (w : World) (h : Nums .u32 w A xs) (hlow : Low B32 xs) (hL : L = xs.length) :
    Calls Try.prog 86 #[.slice A L c, .int .i64 (i : Int)] w fun e w' => e = .returned (.int .u64 ((xs.getD i 0 : Nat) : Int)) ∧ w = w' := by
  obtain ⟨r, hr⟩ : ∃ r, xs.getD i 0 = r := ⟨_, rfl⟩
  rw [hr]
  by_cases hi : i < L
  · obtain ⟨g, off, x, rfl, hg, hx, hcx⟩ := h.at_ (i := i) (by omega)
    have e : r = x := by rw [← hr, List.getD_eq_getElem?_getD, hx]; rfl
    subst e
    have hxl : r < B32 := hlow r (List.mem_of_getElem? hx)
    have w1 : IntKind.u64.wrap (r : Int) = (r : Int) := by rw [IntKind.wrap_u64]; unfold B32 at hxl; omega
    have hii : (i : Int) < (L : Int) := by omega
    clear hr hx h hL hlow hxl
    go_enter Try.func86, Try.ntmps86
    go_wp2
    go_ret
    exact ⟨rfl, rfl⟩
  · have e : r = 0 := by rw [← hr, List.getD_eq_getElem?_getD, List.getElem?_eq_none (by omega)]; rfl
    subst e
    have hii : ¬ (i : Int) < (L : Int) := by omega
    clear hr h hL hlow
    go_enter Try.func86, Try.ntmps86
    go_wp2
    go_ret
    exact ⟨rfl, rfl⟩
end Go.Proofs.Ytaegkhdkhgemmaa

namespace Go.Proofs.Ytaegkhdkhgemmaa
open Go.RowKit Num

theorem val_take_getD (b : Nat) (xs : List Nat) (k : Nat) : val b (xs.take (k + 1)) = val b (xs.take k) + b ^ k * xs.getD k 0 := by
  by_cases hk : k < xs.length
  · rw [val_take_succ b xs k hk]
    simp [List.getD_eq_getElem?_getD, List.getElem?_eq_getElem hk]
  · rw [List.take_of_length_le (by omega), List.take_of_length_le (by omega)]
    simp [List.getD_eq_getElem?_getD, List.getElem?_eq_none (show xs.length ≤ k by omega)]
theorem getD_low {b : Nat} (hb : 0 < b) {xs : List Nat} (h : Low b xs) (k : Nat) : xs.getD k 0 < b := by
  rw [List.getD_eq_getElem?_getD]
  cases e : xs[k]? with
  | none => simpa using hb
  | some v => exact h v (List.mem_of_getElem? e)

/-- Digits that are appended, one after the other: the sum of the first k of both, but for the carry. -/
structure AddOut (xs ys : List Nat) (k : Nat) (os : List Nat) (c : Nat) : Prop where
  len : os.length = k
  low : Low B32 os
  le : c ≤ 1
  eq : val B32 os + B32 ^ k * c = val B32 (xs.take k) + val B32 (ys.take k)
theorem AddOut.start (xs ys : List Nat) : AddOut xs ys 0 [] 0 := ⟨rfl, Low.nil _, by omega, by simp [val]⟩
theorem AddOut.step {xs ys os : List Nat} {k c lo hi : Nat} (h : AddOut xs ys k os c) (hs : lo + B32 * hi = xs.getD k 0 + ys.getD k 0 + c) (hlo : lo < B32) (hhi : hi ≤ 1) :
    AddOut xs ys (k + 1) (os ++ [lo]) hi := by
  refine ⟨by simp [h.len], h.low.append (Low.cons hlo (Low.nil _)), hhi, ?_⟩
  rw [val_snoc, val_take_getD, val_take_getD, h.len]
  have e := h.eq
  have : B32 ^ k * (lo + B32 * hi) = B32 ^ k * (xs.getD k 0 + ys.getD k 0 + c) := by rw [hs]
  rw [Nat.pow_succ]
  grind
theorem AddOut.fin {xs ys os : List Nat} {k c : Nat} (h : AddOut xs ys k os c) (hx : xs.length ≤ k) (hy : ys.length ≤ k) : val B32 (os ++ [c]) = val B32 xs + val B32 ys := by
  have e := h.eq
  rw [List.take_of_length_le hx, List.take_of_length_le hy] at e
  rw [val_snoc, h.len]
  exact e

/-- A sum of three words that stay below 2^64, and its two halves: as the walk shows them. -/
theorem add3_ex (x y c : Nat) (hx : x < B32) (hy : y < B32) (hc : c ≤ 1) : ∃ s1 s lo hi : Nat,
    IntKind.u64.wrap ((x : Int) + (y : Int)) = (s1 : Int) ∧ IntKind.u64.wrap ((s1 : Int) + (c : Int)) = (s : Int) ∧ (s : Int) % 4294967296 = (lo : Int) ∧ (s : Int) / 4294967296 = (hi : Int) ∧
    IntKind.u32.wrap (lo : Int) = (lo : Int) ∧ (lo : Int) % 4294967296 = (lo : Int) ∧ IntKind.u64.wrap (hi : Int) = (hi : Int) ∧ lo + B32 * hi = x + y + c ∧ lo < B32 ∧ hi ≤ 1 := by
  unfold B32 at *
  refine ⟨x + y, x + y + c, (x + y + c) % 4294967296, (x + y + c) / 4294967296, ?_, ?_, by omega, by omega, ?_, by omega, ?_, by omega, by omega, by omega⟩
  · rw [IntKind.wrap_u64]; omega
  · rw [IntKind.wrap_u64]; omega
  · rw [IntKind.wrap_u32']; omega
  · rw [IntKind.wrap_u64]; omega

theorem refTrim_l (a : Value) (xs : List Nat) (w : World) (h : Limbs w a xs) (hlow : Low B32 xs) (hl : xs.length ≤ 1000000000) : Calls Try.prog 80 #[a] w (LsPost w (dig B32 (val B32 xs))) := by
  obtain ⟨A, c, rfl, _, _, hA⟩ := h
  exact refTrim_any A c _ xs w hA hlow rfl hl
theorem OwnLs.mono {B B' : Nat} {w : World} {v : Value} {ys : List Nat} (h : OwnLs B w v ys) (hB : B' ≤ B) : OwnLs B' w v ys := by
  obtain ⟨h1, h2⟩ := h
  refine ⟨h1, ?_⟩
  rcases h2 with h2 | ⟨g, c, cur, e, hg, r⟩
  · exact .inl h2
  · exact .inr ⟨g, c, cur, e, by omega, r⟩

set_option maxHeartbeats 2000000 in
set_option maxRecDepth 100000 in
theorem refAdd_any (A A' : Option Addr) (c c' L L' : Nat) (xs ys : List Nat) (w : World) (hA : Nums .u32 w A xs) (hA' : Nums .u32 w A' ys) (hx : Low B32 xs) (hy : Low B32 ys) (hL : L = xs.length) (hL' : L' = ys.length)
    (hl : L ≤ 1000000) (hl' : L' ≤ 1000000) : Calls Try.prog 43 #[.slice A L c, .slice A' L' c'] w (LsPost w (dig B32 (val B32 xs + val B32 ys))) := by
  obtain ⟨i0, hi, hz0, hz1, hz2⟩ := info_parts info56
  have ho := own_empty w 56
  have hbA := below_new w (.cells #[] 56)
  have HO := Lib.hid ho
  have HL := Lib.hid hL
  have HL' := Lib.hid hL'
  clear ho hL hL'
  obtain ⟨ds, hds⟩ : ∃ ds, dig B32 (val B32 xs + val B32 ys) = ds := ⟨_, rfl⟩
  rw [hds]
  have HDS := Lib.hid hds
  clear hds
  go_enter Try.func43, Try.ntmps43
  go_wp2
  go_loopw [5, 6, 7] (fun out q t wr => ∃ (k cy : Nat) (os : List Nat), (k ≤ L ∨ k ≤ L') ∧ t = .int .i64 (k : Int) ∧ q = .int .u64 (cy : Int) ∧ AddOut xs ys k os cy ∧ wr.ownsRow w.heap.size 56 1 out k (ints .u32 os) ∧ Below w.heap.size w wr) (fun _ _ t _ => L + L' - (intOf t).toNat)
  case atStart => exact ⟨0, 0, [], .inl (Nat.zero_le _), rfl, rfl, AddOut.start xs ys, HO.out, hbA⟩
  case round =>
    clear hbA HO
    obtain ⟨k, cy, os, hk, rfl, rfl, hst, hown, hbl⟩ := hrel
    have hk1 : k ≤ 1000000 := by omega
    by_cases hlt : k < L ∨ k < L'
    · have ha := at_any A c L k xs wr (hA.keep hbl) hx HL.out
      have hb := at_any A' c' L' k ys wr (hA'.keep hbl) hy HL'.out
      obtain ⟨s1, s, lo, hi', w1, w2, w3, w4, w5, w6, w7, hs, hlo, hhi⟩ := add3_ex _ _ cy (getD_low b32_pos hx k) (getD_low b32_pos hy k) hst.le
      have hst' := hst.step hs hlo hhi
      generalize xs.getD k 0 = x at *
      generalize ys.getD k 0 = y at *
      have HA := Lib.hid ha
      have HB := Lib.hid hb
      have HST := Lib.hid hst'
      have HS := Lib.hid hs
      clear ha hb hst' hA hA' hx hy hs hlo hst
      by_cases h1 : k < L
      all_goals
        go_wp2_with (fail)
        refine HA.out.mono ?_
        rintro e w9 ⟨rfl, rfl⟩
        go_wp2_with (fail)
        refine HB.out.mono ?_
        rintro e w9 ⟨rfl, rfl⟩
        go_wp2_with (at_builtin
                     refine wpList_append_own _ rfl _ _ 35 rfl w.heap.size 56 i0 (.int .u32 0) 1 4 Try.underlying35 hi hz0 hz1 hz2 rfl (by decide) _ k _ rfl (hown.alloc _) ⟨wr.heap.size, 0, none⟩ 1 1 [.int .u32 (lo : Int)] rfl rfl (cell_one_new _ _ _) (ints_one .u32 [lo]) ?c4 ?c5 (Nat.le_trans hbl.size (by simp)) ?_)
        case c4 => unfold maxLen; omega
        case c5 => omega
        intro v' w8 hown1 hgr1 _
        have hb1 : Below w.heap.size w w8 := (hbl.alloc hbl.size _).grown hgr1 (Nat.le_trans hbl.size (by simp)) (fun g' hg' => by
          rcases hown.2 with ⟨rfl, _⟩ | ⟨g2, cap, cur, rfl, hg2, _⟩
          · simp [Value.ownBlock] at hg'
          · simp [Value.ownBlock] at hg'; omega)
        have H1 := Lib.hid hown1
        have H0 := Lib.hid hown
        clear hown1 hown
        go_wp2
        go_roundw
        case rel => exact ⟨k + 1, hi', os ++ [lo], by omega, by go_num, rfl, HST.out, by have := H1.out; simpa [ints] using this, hb1⟩
        case measure => simp [intOf]; omega
    · have hst' := hst.fin (by have := HL.out; omega) (by have := HL'.out; omega)
      have hlow2 : Low B32 (os ++ [cy]) := hst.low.append (Low.cons (by have := hst.le; unfold B32; omega) (Low.nil _))
      have hlen2 : (os ++ [cy]).length = k + 1 := by simp [hst.len]
      have hcy := hst.le
      have w1 : IntKind.u32.wrap (cy : Int) = (cy : Int) := by rw [IntKind.wrap_u32']; omega
      have w2 : (cy : Int) % 4294967296 = (cy : Int) := by omega
      have HV := Lib.hid hst'
      have HLO := Lib.hid hlow2
      have HLE := Lib.hid hlen2
      have hA1 : ¬ k < L := by omega
      have hA2 : ¬ k < L' := by omega
      clear hst' hst hA hA' hx hy hlt hlow2 hlen2 hk
      go_wp2_with (at_builtin
                   refine wpList_append_own _ rfl _ _ 35 rfl w.heap.size 56 i0 (.int .u32 0) 1 4 Try.underlying35 hi hz0 hz1 hz2 rfl (by decide) _ k _ rfl (hown.alloc _) ⟨wr.heap.size, 0, none⟩ 1 1 [.int .u32 (cy : Int)] rfl rfl (cell_one_new _ _ _) (ints_one .u32 [cy]) ?c4 ?c5 (Nat.le_trans hbl.size (by simp)) ?_)
      case c4 => unfold maxLen; omega
      case c5 => omega
      intro v' w8 hown1 hgr1 _
      have hb1 : Below w.heap.size w w8 := (hbl.alloc hbl.size _).grown hgr1 (Nat.le_trans hbl.size (by simp)) (fun g' hg' => by
        rcases hown.2 with ⟨rfl, _⟩ | ⟨g2, cap, cur, rfl, hg2, _⟩
        · simp [Value.ownBlock] at hg'
        · simp [Value.ownBlock] at hg'; omega)
      have hls : OwnLs w.heap.size w8 v' (os ++ [cy]) := by
        unfold OwnLs
        rw [HLE.out]
        simpa [ints] using hown1
      have hlim := hls.limbs (by rw [HLE.out]; omega)
      have htr := refTrim_l v' (os ++ [cy]) w8 hlim HLO.out (by rw [HLE.out]; omega)
      rw [HV.out, HDS.out] at htr
      have HT := Lib.hid htr
      clear htr hlim hls hown1 hown
      go_wp2_with (go_at_call 80; refine HT.out.mono ?_; rintro e w9 ⟨v9, rfl, hv9, hb9⟩)
      go_ret
      exact ⟨_, rfl, hv9.mono hb1.size, below_at hb1 (Nat.le_refl _) hb9⟩

theorem refAdd_call (a b : Value) (m n : Nat) (w : World) (ha : N32 w a m) (hb : N32 w b n) (hm : (dig B32 m).length ≤ 1000000) (hn : (dig B32 n).length ≤ 1000000) : Calls Try.prog 43 #[a, b] w (LsPost w (dig B32 (m + n))) := by
  obtain ⟨A, c, rfl, _, hA⟩ := ha
  obtain ⟨A', c', rfl, _, hA'⟩ := hb
  have := refAdd_any A A' c c' _ _ _ _ w hA hA' (low_dig b32_two m) (low_dig b32_two n) rfl rfl hm hn
  rw [val_dig b32_two, val_dig b32_two] at this
  exact this
end Go.Proofs.Ytaegkhdkhgemmaa

namespace Go.Proofs.Ytaegkhdkhgemmaa
open Go.RowKit Num

def lenV : Value → Nat
  | .slice _ n _ => n
  | _ => 0
theorem Hd.take {w : World} {g cap : Nat} {xs : List Nat} (h : Hd w g cap xs) (j : Nat) : Hd w g cap (xs.take j) := by
  obtain ⟨cur, hb, h1, h2, h3, h4⟩ := h
  refine ⟨cur, hb, by rw [List.length_take]; omega, h2, h3, ?_⟩
  have e : ints .u64 (xs.take j) = (ints .u64 xs).take j := by simp [ints, List.map_take]
  rw [e, ← h4, List.take_take, List.length_take]
theorem Four.ne_hd {w : World} {g g' cap : Nat} {xs : List Nat} {p q s t : Int} (h : Four w g p q s t) (k : Hd w g' cap xs) : g ≠ g' := by
  rintro rfl
  obtain ⟨cur, hb, _⟩ := k
  unfold Four at h
  rw [h] at hb
  simp at hb
theorem Four.of_block {w w' : World} {g : Nat} {p q s t : Int} (h : Four w g p q s t) (e : w'.heap[g]? = w.heap[g]?) : Four w' g p q s t := e.trans h
theorem Four.lt {w : World} {g : Nat} {p q s t : Int} (h : Four w g p q s t) : g < w.heap.size := (Array.getElem?_eq_some_iff.1 h).1
theorem Four.keep {w w' : World} {g : Nat} {p q s t : Int} (h : Four w g p q s t) (hb : Below w.heap.size w w') : Four w' g p q s t := h.of_block (hb.block g h.lt)

/-- Two numbers of the call's own, in two blocks, the second's the later one. -/
def TwoH (B : Nat) (w : World) (u v : Value) (m n : Nat) : Prop :=
  ∃ g1 c1 g2 c2, u = .slice (some ⟨g1, 0, none⟩) (dig B64 m).length c1 ∧ v = .slice (some ⟨g2, 0, none⟩) (dig B64 n).length c2 ∧ B ≤ g1 ∧ g1 < g2 ∧ Hd w g1 c1 (dig B64 m) ∧ Hd w g2 c2 (dig B64 n)
def ApPost (B : Nat) (w : World) (a b : Nat) (e : Ending) (w' : World) : Prop := ∃ u v, e = .returned (.tuple #[u, v]) ∧ TwoH B w' u v a b ∧ Below B w w'

/-- The digits of n, with zeros up to L places. -/
def pad (n L : Nat) : List Nat := dig B64 n ++ List.replicate (L - (dig B64 n).length) 0
theorem pad_self (n : Nat) : pad n (dig B64 n).length = dig B64 n := by simp [pad]
theorem pad_len {n L : Nat} (h : (dig B64 n).length ≤ L) : (pad n L).length = L := by simp [pad]; omega
theorem pad_low (n L : Nat) : Low B64 (pad n L) := (low_dig b64_two n).append (Low.replicate b64_pos _)
theorem pad_val (n L : Nat) : val B64 (pad n L) = n := by unfold pad; rw [val_append, val_replicate, val_dig b64_two]; simp
theorem pad_succ {n k : Nat} (h : (dig B64 n).length ≤ k) : pad n (k + 1) = pad n k ++ [0] := by
  unfold pad
  rw [show k + 1 - (dig B64 n).length = (k - (dig B64 n).length) + 1 by omega, List.replicate_succ', List.append_assoc]

set_option maxHeartbeats 4000000 in
set_option maxRecDepth 100000 in
theorem apply_neg (B g1 c1 g2 c2 m n a b P Q S T : Nat) (p q s t : Int) (w : World) (hst : Num.Steps m n p q s t a b) (ht : ¬ 0 < q) (hP : p = P) (hQ : q = -(Q : Int)) (hS : s = -(S : Int)) (hT : t = T)
    (hB : B ≤ g1) (hg : g1 < g2) (h1 : Hd w g1 c1 (dig B64 m)) (h2 : Hd w g2 c2 (dig B64 n)) (hle : (dig B64 n).length ≤ (dig B64 m).length) (hm : (dig B64 m).length ≤ 1000000) (hBw : B ≤ w.heap.size) :
    Calls Try.prog 120 #[.agg #[.int .i64 p, .int .i64 q, .int .i64 s, .int .i64 t], .slice (some ⟨g1, 0, none⟩) (dig B64 m).length c1, .slice (some ⟨g2, 0, none⟩) (dig B64 n).length c2] w (ApPost B w a b) := by
  obtain ⟨L, hL⟩ : ∃ L, (dig B64 m).length = L := ⟨_, rfl⟩
  obtain ⟨K, hK⟩ : ∃ K, (dig B64 n).length = K := ⟨_, rfl⟩
  rw [hL, hK] at hle
  rw [hL] at hm
  have hwa : (a : Int) = (P : Int) * (val B64 (dig B64 m) : Nat) - (Q : Int) * (val B64 (pad n L) : Nat) := by
    rw [pad_val, val_dig b64_two, hst.isA]; subst hQ; rw [← hP]; grind
  have hwb : (b : Int) = (T : Int) * (val B64 (pad n L) : Nat) - (S : Int) * (val B64 (dig B64 m) : Nat) := by
    rw [pad_val, val_dig b64_two, hst.isB]; subst hS; rw [← hT]; grind
  have hla : m < B64 ^ L := by rw [← hL]; exact dig_len_lt b64_two
  have hla1 : a < B64 ^ L := Nat.lt_of_le_of_lt hst.aA hla
  have hlb1 : b < B64 ^ L := Nat.lt_of_le_of_lt (Nat.le_trans hst.le hst.aA) hla
  have hPle : P ≤ 4611686018427387904 := by have := hst.bp; have := hst.bq; omega
  have hQle : Q ≤ 4611686018427387904 := by have := hst.bp; have := hst.bq; omega
  have hSle : S ≤ 4611686018427387904 := by have := hst.bs; have := hst.bt; omega
  have hTle : T ≤ 4611686018427387904 := by have := hst.bs; have := hst.bt; omega
  have u1 : IntKind.u64.wrap p = (P : Int) := by rw [IntKind.wrap_u64]; omega
  have u2 : IntKind.i64.wrap (-q) = (Q : Int) := by rw [IntKind.wrap_i64]; omega
  have u3 : IntKind.u64.wrap (Q : Int) = (Q : Int) := by rw [IntKind.wrap_u64]; omega
  have u4 : IntKind.i64.wrap (-s) = (S : Int) := by rw [IntKind.wrap_i64]; omega
  have u5 : IntKind.u64.wrap (S : Int) = (S : Int) := by rw [IntKind.wrap_u64]; omega
  have u6 : IntKind.u64.wrap t = (T : Int) := by rw [IntKind.wrap_u64]; omega
  obtain ⟨i0, hi, hz0, hz1, hz2⟩ := info_parts info24
  have hbx : Below B w (w.alloc (Obj.cells #[.int .i64 p, .int .i64 q, .int .i64 s, .int .i64 t] 129)) := (Below.refl _ w).alloc hBw _
  have h4 : Four (w.alloc (Obj.cells #[.int .i64 p, .int .i64 q, .int .i64 s, .int .i64 t] 129)) w.heap.size p q s t := heap_alloc_new w _
  have h1' := h1.keep (below_new w (Obj.cells #[.int .i64 p, .int .i64 q, .int .i64 s, .int .i64 t] 129))
  have h2' := h2.keep (below_new w (Obj.cells #[.int .i64 p, .int .i64 q, .int .i64 s, .int .i64 t] 129))
  have hpn : pad n K = dig B64 n := by rw [← hK]; exact pad_self n
  have hpl : ∀ k, K ≤ k → (pad n k).length = k := fun k hk => pad_len (by omega)
  have hps : ∀ k, K ≤ k → pad n (k + 1) = pad n k ++ [0] := fun k hk => pad_succ (by omega)
  have hlm : Low B64 (dig B64 m) := low_dig b64_two m
  rw [← hpn] at h2'
  rw [hL, hK]
  have HWA := Lib.hid hwa
  have HWB := Lib.hid hwb
  have HLA := Lib.hid hla1
  have HLB := Lib.hid hlb1
  have HL := Lib.hid hL
  have HK := Lib.hid hK
  have HPL := Lib.hid hpl
  have HPS := Lib.hid hps
  have HLM := Lib.hid hlm
  clear hwa hwb hla hla1 hlb1 hL hK hpn hpl hps hP hQ hS hT hst h1 h2 hlm
  generalize dig B64 m = AA at *
  go_enter Try.func120, Try.ntmps120
  go_wp2
  go_loopw [2] (fun bv wr => ∃ (k c g : Nat), bv = .slice (some ⟨g, 0, none⟩) k c ∧ K ≤ k ∧ k ≤ L ∧ g1 < g ∧ Hd wr g c (pad n k) ∧ Hd wr g1 c1 AA ∧ Four wr w.heap.size p q s t ∧ Below B w wr) (fun bv _ => L - lenV bv)
  case atStart => exact ⟨K, c2, g2, rfl, Nat.le_refl _, hle, hg, h2', h1', h4, hbx⟩
  case round =>
    clear hbx h4 h1' h2' hg
    obtain ⟨k, c, g, rfl, hKk, hkL, hg, hd, ha, h4, hbl⟩ := hrel
    have hkl := HPL.out k hKk
    by_cases hlt : k < L
    · have hown := hd.owns (B := g1 + 1) (by omega)
      rw [hkl] at hown
      have hgl := ha.lt
      have H1 := Lib.hid hd
      have HKL := Lib.hid hkl
      clear hd hkl
      go_wp2_with (at_builtin
                   refine wpList_append_own _ rfl _ _ 88 rfl (g1 + 1) 24 i0 (.int .u64 0) 1 8 Try.underlying88 hi hz0 hz1 hz2 rfl (by decide) _ k _ rfl (hown.alloc _) ⟨wr.heap.size, 0, none⟩ 1 1 [.int .u64 0] rfl rfl (cell_one_new _ _ _) (ints_one .u64 [0]) ?c4 ?c5 (by simp; omega) ?_)
      case c4 => unfold maxLen; omega
      case c5 => omega
      intro v' w8 hown1 hgr1 hne
      have hv : v' ≠ .slice none 0 0 := by simpa using hne
      have hown2 : w8.ownsRow (g1 + 1) 24 1 v' (k + 1) (ints .u64 (pad n (k + 1))) := by rw [HPS.out k hKk]; simpa [ints] using hown1
      obtain ⟨g', cap', rfl, hg', hk', hd'⟩ := Hd.of_owns hown2 hv
      rw [← hk'] at *
      have hne4 := h4.ne_hd H1.out
      have hb1 : Below B w w8 := (hbl.alloc (Nat.le_trans hBw hbl.size) _).grown hgr1 (Nat.le_trans (Nat.le_trans hBw hbl.size) (by simp)) (fun g9 hg9 => by simp [Value.ownBlock] at hg9; omega)
      have ha8 : Hd w8 g1 c1 AA := (ha.keep (below_new _ _)).grown hgr1 (by simp [Value.ownBlock]; omega)
      have h48 : Four w8 w.heap.size p q s t := (h4.keep (below_new _ _)).of_block (hgr1.block _ ((h4.keep (below_new _ _)).lt) (by simp [Value.ownBlock]; omega))
      clear hown hown1 hown2 hgr1 hne hv
      go_wp2
      go_roundw
      case rel => exact ⟨k + 1, cap', g', rfl, by omega, by omega, by omega, hd', ha8, h48, hb1⟩
      case measure => simp [lenV]; omega
    · obtain rfl : k = L := by omega
      have hlow2 := pad_low n k
      generalize pad n k = NB at *
      have f0 := h4.c0
      have f1 := h4.c1
      have f2 := h4.c2
      have f3 := h4.c3
      have fr := h4.frozen
      have HA := Lib.hid ha
      have HD := Lib.hid hd
      have HB := Lib.hid hbl
      clear ha hd hbl h4
      go_wp2
      go_quiet (fail)
      go_wp2
      go_loopw [14, 15, 59] (fun ov1 ov2 tv w2 => ∃ (j o1 o2 : Nat) (zs ys : List Nat) (oa ob : Int), j ≤ k ∧ ov1 = .int .u64 (o1 : Int) ∧ ov2 = .int .u64 (o2 : Int) ∧ tv = .int .i64 (j : Int) ∧
        Num.ApSt B64 AA NB AA P Q j zs oa ∧ Num.ApSt B64 NB AA NB T S j ys ob ∧ SgnW oa o1 ∧ SgnW ob o2 ∧ Hd w2 g1 c1 zs ∧ Hd w2 g c ys ∧ Below B w w2) (fun _ _ tv _ => k - (intOf tv).toNat)
      case atStart => exact ⟨0, 0, 0, AA, NB, 0, 0, Nat.zero_le _, rfl, rfl, rfl, Num.ApSt.start HLM.out, Num.ApSt.start hlow2, SgnW.zero, SgnW.zero, HA.out.keep (below_drewN (Below.refl _ _) _), HD.out.keep (below_drewN (Below.refl _ _) _), below_drewN HB.out _⟩
      case round =>
        clear HA HD HB
        obtain ⟨j, o1, o2, zs, ys, oa, ob, hj, rfl, rfl, rfl, hs1, hs2, hw1, hw2, ha, hd, hbl⟩ := hrel
        have hLA := HL.out
        by_cases hlt2 : j < k
        · obtain ⟨x, hx⟩ : ∃ x, AA[j]? = some x := ⟨AA[j]'(by omega), List.getElem?_eq_getElem _⟩
          obtain ⟨y, hy⟩ : ∃ y, NB[j]? = some y := ⟨NB[j]'(by omega), List.getElem?_eq_getElem _⟩
          have hx1 := hs1.rest j (Nat.le_refl _)
          have hy1 := hs2.rest j (Nat.le_refl _)
          rw [hx] at hx1
          rw [hy] at hy1
          have cx := ha.cell hx1
          have cy := hd.cell hy1
          have fx := ha.frozen j
          have fy := hd.frozen j
          have hxl : x < B64 := HLM.out x (List.mem_of_getElem? hx)
          have hyl : y < B64 := hlow2 y (List.mem_of_getElem? hy)
          have k1 := fun w => mulSub_any P x Q y oa o1 hPle hQle hxl hyl hw1 w
          have k2 := fun w => mulSub_any T y S x ob o2 hTle hSle hyl hxl hw2 w
          have hla := hs1.len
          have hlb := hs2.len
          have K1 := Lib.hid k1
          have K2 := Lib.hid k2
          have HX := Lib.hid hx
          have HY := Lib.hid hy
          have S1 := Lib.hid hs1
          have S2 := Lib.hid hs2
          have GA := Lib.hid ha
          have GD := Lib.hid hd
          have LA := Lib.hid hla
          have LB := Lib.hid hlb
          have LL := Lib.hid hLA
          have HKL := Lib.hid hkl
          have LW := Lib.hid hlow2
          clear k1 k2 hx hy hx1 hy1 hs1 hs2 ha hd hla hlb hLA hxl hyl hw1 hw2 hkl hlow2
          go_wp2_with (fail)
          refine (K1.out _).mono ?_
          rintro e w' ⟨lo1, hi1, oa', rfl, hlo1, hsg1, he1, rfl⟩
          have ha2 := GA.out.set j lo1 (by have := LA.out; have := LL.out; omega)
          have hd2 := GD.out.setOther (a := ⟨g1, j, none⟩) (by simp; omega) (.int .u64 (lo1 : Int))
          have cx2 := ha2.frozen j
          have hy2 := S2.out.rest j (Nat.le_refl _)
          rw [HY.out] at hy2
          have cy2 := hd2.cell hy2
          have fy2 := hd2.frozen j
          have GA2 := Lib.hid ha2
          have GD2 := Lib.hid hd2
          have E1 := Lib.hid he1
          clear ha2 hd2 he1 hy2
          go_wp2_with (fail)
          refine (K2.out _).mono ?_
          rintro e w' ⟨lo2, hi2, ob', rfl, hlo2, hsg2, he2, rfl⟩
          have E2 := Lib.hid he2
          clear he2
          go_wp2
          go_roundw
          case rel => exact ⟨j + 1, hi1, hi2, zs.set j lo1, ys.set j lo2, oa', ob', by omega, rfl, rfl, by go_num, S1.out.step HX.out HY.out (by have := LL.out; omega) hlo1 E1.out, S2.out.step HY.out HX.out (by have := HKL.out; omega) hlo2 E2.out, hsg1, hsg2,
            GA2.out.setOther (a := ⟨g, j, none⟩) (by simp; omega) _, GD2.out.set j lo2 (by have := LB.out; have := HKL.out; omega), below_set (below_set hbl (by omega) _) (by omega) _⟩
          case measure => simp [intOf]; omega
        · obtain rfl : j = k := by omega
          have v1 := hs1.fin hLA hLA hkl HWA.out HLA.out
          have v2 := hs2.fin hkl hkl hLA HWB.out HLB.out
          have t1 := fun w' (hk : Hd w' g1 c1 zs) => trim_any (some ⟨g1, 0, none⟩) c1 j zs w' (by have := hk.nums zs.length; rwa [List.take_length] at this) hs1.low (by rw [hs1.len]; exact hLA.symm) (by have := hk.cap_le; rw [hs1.len] at this; omega) (by omega)
          have t2 := fun w' (hk : Hd w' g c ys) => trim_any (some ⟨g, 0, none⟩) c j ys w' (by have := hk.nums ys.length; rwa [List.take_length] at this) hs2.low (by rw [hs2.len]; exact hkl.symm) (by have := hk.cap_le; rw [hs2.len] at this; omega) (by omega)
          have ha3 := ha.take (dig B64 (val B64 zs)).length
          have hd3 := hd.take (dig B64 (val B64 ys)).length
          rw [trim_take b64_two hs1.low, v1] at ha3
          rw [trim_take b64_two hs2.low, v2] at hd3
          rw [v1] at t1
          rw [v2] at t2
          have T1 := Lib.hid t1
          have T2 := Lib.hid t2
          have GA := Lib.hid ha
          have GD := Lib.hid hd
          have A3 := Lib.hid ha3
          have D3 := Lib.hid hd3
          clear t1 t2 ha hd ha3 hd3 v1 v2 hs1 hs2 hLA hkl hlow2
          go_wp2_with (fail)
          refine (T1.out _ GA.out).mono ?_
          rintro e w' ⟨rfl, rfl⟩
          go_wp2_with (fail)
          refine (T2.out _ GD.out).mono ?_
          rintro e w' ⟨rfl, rfl⟩
          go_wp2
          go_ret2
          exact ⟨_, _, rfl, ⟨g1, c1, g, c, rfl, rfl, hB, hg, A3.out, D3.out⟩, hbl⟩

set_option maxHeartbeats 4000000 in
set_option maxRecDepth 100000 in
theorem apply_pos (B g1 c1 g2 c2 m n a b P Q S T : Nat) (p q s t : Int) (w : World) (hst : Num.Steps m n p q s t a b) (ht : 0 < q) (hP : q = P) (hQ : p = -(Q : Int)) (hS : t = -(S : Int)) (hT : s = T)
    (hB : B ≤ g1) (hg : g1 < g2) (h1 : Hd w g1 c1 (dig B64 m)) (h2 : Hd w g2 c2 (dig B64 n)) (hle : (dig B64 n).length ≤ (dig B64 m).length) (hm : (dig B64 m).length ≤ 1000000) (hBw : B ≤ w.heap.size) :
    Calls Try.prog 120 #[.agg #[.int .i64 p, .int .i64 q, .int .i64 s, .int .i64 t], .slice (some ⟨g1, 0, none⟩) (dig B64 m).length c1, .slice (some ⟨g2, 0, none⟩) (dig B64 n).length c2] w (ApPost B w a b) := by
  obtain ⟨L, hL⟩ : ∃ L, (dig B64 m).length = L := ⟨_, rfl⟩
  obtain ⟨K, hK⟩ : ∃ K, (dig B64 n).length = K := ⟨_, rfl⟩
  rw [hL, hK] at hle
  rw [hL] at hm
  have hwa : (a : Int) = (P : Int) * (val B64 (pad n L) : Nat) - (Q : Int) * (val B64 (dig B64 m) : Nat) := by
    rw [pad_val, val_dig b64_two, hst.isA]; subst hQ; rw [← hP]; grind
  have hwb : (b : Int) = (T : Int) * (val B64 (dig B64 m) : Nat) - (S : Int) * (val B64 (pad n L) : Nat) := by
    rw [pad_val, val_dig b64_two, hst.isB]; subst hS; rw [← hT]; grind
  have hla : m < B64 ^ L := by rw [← hL]; exact dig_len_lt b64_two
  have hla1 : a < B64 ^ L := Nat.lt_of_le_of_lt hst.aA hla
  have hlb1 : b < B64 ^ L := Nat.lt_of_le_of_lt (Nat.le_trans hst.le hst.aA) hla
  have hPle : P ≤ 4611686018427387904 := by have := hst.bp; have := hst.bq; omega
  have hQle : Q ≤ 4611686018427387904 := by have := hst.bp; have := hst.bq; omega
  have hSle : S ≤ 4611686018427387904 := by have := hst.bs; have := hst.bt; omega
  have hTle : T ≤ 4611686018427387904 := by have := hst.bs; have := hst.bt; omega
  have u1 : IntKind.u64.wrap q = (P : Int) := by rw [IntKind.wrap_u64]; omega
  have u2 : IntKind.i64.wrap (-p) = (Q : Int) := by rw [IntKind.wrap_i64]; omega
  have u3 : IntKind.u64.wrap (Q : Int) = (Q : Int) := by rw [IntKind.wrap_u64]; omega
  have u4 : IntKind.i64.wrap (-t) = (S : Int) := by rw [IntKind.wrap_i64]; omega
  have u5 : IntKind.u64.wrap (S : Int) = (S : Int) := by rw [IntKind.wrap_u64]; omega
  have u6 : IntKind.u64.wrap s = (T : Int) := by rw [IntKind.wrap_u64]; omega
  obtain ⟨i0, hi, hz0, hz1, hz2⟩ := info_parts info24
  have hbx : Below B w (w.alloc (Obj.cells #[.int .i64 p, .int .i64 q, .int .i64 s, .int .i64 t] 129)) := (Below.refl _ w).alloc hBw _
  have h4 : Four (w.alloc (Obj.cells #[.int .i64 p, .int .i64 q, .int .i64 s, .int .i64 t] 129)) w.heap.size p q s t := heap_alloc_new w _
  have h1' := h1.keep (below_new w (Obj.cells #[.int .i64 p, .int .i64 q, .int .i64 s, .int .i64 t] 129))
  have h2' := h2.keep (below_new w (Obj.cells #[.int .i64 p, .int .i64 q, .int .i64 s, .int .i64 t] 129))
  have hpn : pad n K = dig B64 n := by rw [← hK]; exact pad_self n
  have hpl : ∀ k, K ≤ k → (pad n k).length = k := fun k hk => pad_len (by omega)
  have hps : ∀ k, K ≤ k → pad n (k + 1) = pad n k ++ [0] := fun k hk => pad_succ (by omega)
  have hlm : Low B64 (dig B64 m) := low_dig b64_two m
  rw [← hpn] at h2'
  rw [hL, hK]
  have HWA := Lib.hid hwa
  have HWB := Lib.hid hwb
  have HLA := Lib.hid hla1
  have HLB := Lib.hid hlb1
  have HL := Lib.hid hL
  have HK := Lib.hid hK
  have HPL := Lib.hid hpl
  have HPS := Lib.hid hps
  have HLM := Lib.hid hlm
  clear hwa hwb hla hla1 hlb1 hL hK hpn hpl hps hP hQ hS hT hst h1 h2 hlm
  generalize dig B64 m = AA at *
  go_enter Try.func120, Try.ntmps120
  go_wp2
  go_loopw [2] (fun bv wr => ∃ (k c g : Nat), bv = .slice (some ⟨g, 0, none⟩) k c ∧ K ≤ k ∧ k ≤ L ∧ g1 < g ∧ Hd wr g c (pad n k) ∧ Hd wr g1 c1 AA ∧ Four wr w.heap.size p q s t ∧ Below B w wr) (fun bv _ => L - lenV bv)
  case atStart => exact ⟨K, c2, g2, rfl, Nat.le_refl _, hle, hg, h2', h1', h4, hbx⟩
  case round =>
    clear hbx h4 h1' h2' hg
    obtain ⟨k, c, g, rfl, hKk, hkL, hg, hd, ha, h4, hbl⟩ := hrel
    have hkl := HPL.out k hKk
    by_cases hlt : k < L
    · have hown := hd.owns (B := g1 + 1) (by omega)
      rw [hkl] at hown
      have hgl := ha.lt
      have H1 := Lib.hid hd
      have HKL := Lib.hid hkl
      clear hd hkl
      go_wp2_with (at_builtin
                   refine wpList_append_own _ rfl _ _ 88 rfl (g1 + 1) 24 i0 (.int .u64 0) 1 8 Try.underlying88 hi hz0 hz1 hz2 rfl (by decide) _ k _ rfl (hown.alloc _) ⟨wr.heap.size, 0, none⟩ 1 1 [.int .u64 0] rfl rfl (cell_one_new _ _ _) (ints_one .u64 [0]) ?c4 ?c5 (by simp; omega) ?_)
      case c4 => unfold maxLen; omega
      case c5 => omega
      intro v' w8 hown1 hgr1 hne
      have hv : v' ≠ .slice none 0 0 := by simpa using hne
      have hown2 : w8.ownsRow (g1 + 1) 24 1 v' (k + 1) (ints .u64 (pad n (k + 1))) := by rw [HPS.out k hKk]; simpa [ints] using hown1
      obtain ⟨g', cap', rfl, hg', hk', hd'⟩ := Hd.of_owns hown2 hv
      rw [← hk'] at *
      have hne4 := h4.ne_hd H1.out
      have hb1 : Below B w w8 := (hbl.alloc (Nat.le_trans hBw hbl.size) _).grown hgr1 (Nat.le_trans (Nat.le_trans hBw hbl.size) (by simp)) (fun g9 hg9 => by simp [Value.ownBlock] at hg9; omega)
      have ha8 : Hd w8 g1 c1 AA := (ha.keep (below_new _ _)).grown hgr1 (by simp [Value.ownBlock]; omega)
      have h48 : Four w8 w.heap.size p q s t := (h4.keep (below_new _ _)).of_block (hgr1.block _ ((h4.keep (below_new _ _)).lt) (by simp [Value.ownBlock]; omega))
      clear hown hown1 hown2 hgr1 hne hv
      go_wp2
      go_roundw
      case rel => exact ⟨k + 1, cap', g', rfl, by omega, by omega, by omega, hd', ha8, h48, hb1⟩
      case measure => simp [lenV]; omega
    · obtain rfl : k = L := by omega
      have hlow2 := pad_low n k
      generalize pad n k = NB at *
      have f0 := h4.c0
      have f1 := h4.c1
      have f2 := h4.c2
      have f3 := h4.c3
      have fr := h4.frozen
      have h4' := h4.set q p t s
      have hne1 := h4.ne_hd ha
      have hne2 := h4.ne_hd hd
      have ha' : Hd ((((wr.setCell ⟨w.heap.size, 0, none⟩ (.int .i64 q)).setCell ⟨w.heap.size, 1, none⟩ (.int .i64 p)).setCell ⟨w.heap.size, 2, none⟩ (.int .i64 t)).setCell ⟨w.heap.size, 3, none⟩ (.int .i64 s)) g1 c1 AA :=
        (((ha.setOther (by simpa using hne1.symm) _).setOther (by simpa using hne1.symm) _).setOther (by simpa using hne1.symm) _).setOther (by simpa using hne1.symm) _
      have hd' : Hd ((((wr.setCell ⟨w.heap.size, 0, none⟩ (.int .i64 q)).setCell ⟨w.heap.size, 1, none⟩ (.int .i64 p)).setCell ⟨w.heap.size, 2, none⟩ (.int .i64 t)).setCell ⟨w.heap.size, 3, none⟩ (.int .i64 s)) g c NB :=
        (((hd.setOther (by simpa using hne2.symm) _).setOther (by simpa using hne2.symm) _).setOther (by simpa using hne2.symm) _).setOther (by simpa using hne2.symm) _
      have hbl' : Below B w ((((wr.setCell ⟨w.heap.size, 0, none⟩ (.int .i64 q)).setCell ⟨w.heap.size, 1, none⟩ (.int .i64 p)).setCell ⟨w.heap.size, 2, none⟩ (.int .i64 t)).setCell ⟨w.heap.size, 3, none⟩ (.int .i64 s)) :=
        below_set (below_set (below_set (below_set hbl hBw _) hBw _) hBw _) hBw _
      have f0' := h4'.c0
      have f1' := h4'.c1
      have f2' := h4'.c2
      have f3' := h4'.c3
      have fr' := h4'.frozen
      have HA := Lib.hid ha'
      have HD := Lib.hid hd'
      have HB := Lib.hid hbl'
      clear ha hd hbl h4 h4' ha' hd' hbl' hne1 hne2
      go_wp2
      go_quiet (fail)
      go_wp2
      go_loopw [14, 15, 59] (fun ov1 ov2 tv w2 => ∃ (j o1 o2 : Nat) (zs ys : List Nat) (oa ob : Int), j ≤ k ∧ ov1 = .int .u64 (o1 : Int) ∧ ov2 = .int .u64 (o2 : Int) ∧ tv = .int .i64 (j : Int) ∧
        Num.ApSt B64 NB AA AA P Q j zs oa ∧ Num.ApSt B64 AA NB NB T S j ys ob ∧ SgnW oa o1 ∧ SgnW ob o2 ∧ Hd w2 g1 c1 zs ∧ Hd w2 g c ys ∧ Below B w w2) (fun _ _ tv _ => k - (intOf tv).toNat)
      case atStart => exact ⟨0, 0, 0, AA, NB, 0, 0, Nat.zero_le _, rfl, rfl, rfl, Num.ApSt.start HLM.out, Num.ApSt.start hlow2, SgnW.zero, SgnW.zero, HA.out.keep (below_drewN (Below.refl _ _) _), HD.out.keep (below_drewN (Below.refl _ _) _), below_drewN HB.out _⟩
      case round =>
        clear HA HD HB
        obtain ⟨j, o1, o2, zs, ys, oa, ob, hj, rfl, rfl, rfl, hs1, hs2, hw1, hw2, ha, hd, hbl⟩ := hrel
        have hLA := HL.out
        by_cases hlt2 : j < k
        · obtain ⟨x, hx⟩ : ∃ x, AA[j]? = some x := ⟨AA[j]'(by omega), List.getElem?_eq_getElem _⟩
          obtain ⟨y, hy⟩ : ∃ y, NB[j]? = some y := ⟨NB[j]'(by omega), List.getElem?_eq_getElem _⟩
          have hx1 := hs1.rest j (Nat.le_refl _)
          have hy1 := hs2.rest j (Nat.le_refl _)
          rw [hx] at hx1
          rw [hy] at hy1
          have cx := ha.cell hx1
          have cy := hd.cell hy1
          have fx := ha.frozen j
          have fy := hd.frozen j
          have hxl : x < B64 := HLM.out x (List.mem_of_getElem? hx)
          have hyl : y < B64 := hlow2 y (List.mem_of_getElem? hy)
          have k1 := fun w => mulSub_any P y Q x oa o1 hPle hQle hyl hxl hw1 w
          have k2 := fun w => mulSub_any T x S y ob o2 hTle hSle hxl hyl hw2 w
          have hla := hs1.len
          have hlb := hs2.len
          have K1 := Lib.hid k1
          have K2 := Lib.hid k2
          have HX := Lib.hid hx
          have HY := Lib.hid hy
          have S1 := Lib.hid hs1
          have S2 := Lib.hid hs2
          have GA := Lib.hid ha
          have GD := Lib.hid hd
          have LA := Lib.hid hla
          have LB := Lib.hid hlb
          have LL := Lib.hid hLA
          have HKL := Lib.hid hkl
          have LW := Lib.hid hlow2
          clear k1 k2 hx hy hx1 hy1 hs1 hs2 ha hd hla hlb hLA hxl hyl hw1 hw2 hkl hlow2
          go_wp2_with (fail)
          refine (K1.out _).mono ?_
          rintro e w' ⟨lo1, hi1, oa', rfl, hlo1, hsg1, he1, rfl⟩
          have ha2 := GA.out.set j lo1 (by have := LA.out; have := LL.out; omega)
          have hd2 := GD.out.setOther (a := ⟨g1, j, none⟩) (by simp; omega) (.int .u64 (lo1 : Int))
          have cx2 := ha2.frozen j
          have hy2 := S2.out.rest j (Nat.le_refl _)
          rw [HY.out] at hy2
          have cy2 := hd2.cell hy2
          have fy2 := hd2.frozen j
          have GA2 := Lib.hid ha2
          have GD2 := Lib.hid hd2
          have E1 := Lib.hid he1
          clear ha2 hd2 he1 hy2
          go_wp2_with (fail)
          refine (K2.out _).mono ?_
          rintro e w' ⟨lo2, hi2, ob', rfl, hlo2, hsg2, he2, rfl⟩
          have E2 := Lib.hid he2
          clear he2
          go_wp2
          go_roundw
          case rel => exact ⟨j + 1, hi1, hi2, zs.set j lo1, ys.set j lo2, oa', ob', by omega, rfl, rfl, by go_num, S1.out.step HY.out HX.out (by have := LL.out; omega) hlo1 E1.out, S2.out.step HX.out HY.out (by have := HKL.out; omega) hlo2 E2.out, hsg1, hsg2,
            GA2.out.setOther (a := ⟨g, j, none⟩) (by simp; omega) _, GD2.out.set j lo2 (by have := LB.out; have := HKL.out; omega), below_set (below_set hbl (by omega) _) (by omega) _⟩
          case measure => simp [intOf]; omega
        · obtain rfl : j = k := by omega
          have v1 := hs1.fin hLA hkl hLA HWA.out HLA.out
          have v2 := hs2.fin hkl hLA hkl HWB.out HLB.out
          have t1 := fun w' (hk : Hd w' g1 c1 zs) => trim_any (some ⟨g1, 0, none⟩) c1 j zs w' (by have := hk.nums zs.length; rwa [List.take_length] at this) hs1.low (by rw [hs1.len]; exact hLA.symm) (by have := hk.cap_le; rw [hs1.len] at this; omega) (by omega)
          have t2 := fun w' (hk : Hd w' g c ys) => trim_any (some ⟨g, 0, none⟩) c j ys w' (by have := hk.nums ys.length; rwa [List.take_length] at this) hs2.low (by rw [hs2.len]; exact hkl.symm) (by have := hk.cap_le; rw [hs2.len] at this; omega) (by omega)
          have ha3 := ha.take (dig B64 (val B64 zs)).length
          have hd3 := hd.take (dig B64 (val B64 ys)).length
          rw [trim_take b64_two hs1.low, v1] at ha3
          rw [trim_take b64_two hs2.low, v2] at hd3
          rw [v1] at t1
          rw [v2] at t2
          have T1 := Lib.hid t1
          have T2 := Lib.hid t2
          have GA := Lib.hid ha
          have GD := Lib.hid hd
          have A3 := Lib.hid ha3
          have D3 := Lib.hid hd3
          clear t1 t2 ha hd ha3 hd3 v1 v2 hs1 hs2 hLA hkl hlow2
          go_wp2_with (fail)
          refine (T1.out _ GA.out).mono ?_
          rintro e w' ⟨rfl, rfl⟩
          go_wp2_with (fail)
          refine (T2.out _ GD.out).mono ?_
          rintro e w' ⟨rfl, rfl⟩
          go_wp2
          go_ret2
          exact ⟨_, _, rfl, ⟨g1, c1, g, c, rfl, rfl, hB, hg, A3.out, D3.out⟩, hbl⟩
end Go.Proofs.Ytaegkhdkhgemmaa

namespace Go.Proofs.Ytaegkhdkhgemmaa
open Go.RowKit Num

theorem Hd.of_row {w : World} {g : Nat} {zs : List Nat} (h : Row .u64 24 w g zs) (hl : zs.length ≤ 1000000000000) : Hd w g zs.length zs :=
  ⟨_, h.heap, Nat.le_refl _, by unfold maxLen; omega, by simp [ints], List.take_of_length_le (by simp [ints])⟩
theorem Hd.take1 {w : World} {g cap : Nat} {xs : List Nat} (h : Hd w g cap xs) (j : Nat) : Hd w g cap (xs.take j) := by
  obtain ⟨cur, hb, h1, h2, h3, h4⟩ := h
  refine ⟨cur, hb, by rw [List.length_take]; omega, h2, h3, ?_⟩
  have e : ints .u64 (xs.take j) = (ints .u64 xs).take j := by simp [ints, List.map_take]
  rw [e, ← h4, List.take_take, List.length_take]
theorem ownH_of_trim {B g : Nat} {w : World} {zs : List Nat} (h : Row .u64 24 w g zs) (hlow : Low B64 zs) (hl : zs.length ≤ 1000000000000) (hB : B ≤ g) : OwnH B w (.slice (some ⟨g, 0, none⟩) (dig B64 (val B64 zs)).length zs.length) (val B64 zs) := by
  refine ⟨g, _, rfl, hB, ?_⟩
  have := (Hd.of_row h hl).take1 (dig B64 (val B64 zs)).length
  rwa [trim_take b64_two hlow] at this
theorem OwnH.mono {B B' : Nat} {w : World} {v : Value} {n : Nat} (h : OwnH B w v n) (hB : B' ≤ B) : OwnH B' w v n := by
  obtain ⟨g, c, e, h1, h2⟩ := h
  exact ⟨g, c, e, Nat.le_trans hB h1, h2⟩
/-- Quotient and remainder; the remainder, where it isn't 0, is the call's own. -/
def DivOPost (w : World) (q r : Nat) (e : Ending) (w' : World) : Prop := ∃ v u, e = .returned (.tuple #[v, u]) ∧ W64 w' v q ∧ W64 w' u r ∧ (0 < r → OwnH w.heap.size w' u r) ∧ Below w.heap.size w w'

set_option maxHeartbeats 2000000 in
set_option maxRecDepth 100000 in
theorem shiftRight_own (a : Value) (n f : Nat) (w : World) (ha : W64 w a n) (hl : (dig B64 n).length ≤ 100000000000) (hf : f ≤ 10000000000000) (hp : 0 < n / 2 ^ f) :
    Calls Try.prog 92 #[a, .int .i64 (f : Int)] w (HPost w (n / 2 ^ f)) := by
  obtain ⟨A, c, rfl, _, hA⟩ := ha
  generalize hL : (dig B64 n).length = L at *
  have e1 : (f : Int) / 64 = ((f / 64 : Nat) : Int) := by omega
  have hfw : n / 2 ^ f = n / B64 ^ (f / 64) / 2 ^ (f % 64) := by
    rw [← pow_b64, Nat.div_div_eq_div_mul, ← Nat.pow_add]; congr 2; omega
  by_cases hw : f / 64 < L
  · have hq : n / 2 ^ f < B64 ^ (L - f / 64) := by
      have h1 := dig_len_lt b64_two (n := n)
      rw [hL, show L = f / 64 + (L - f / 64) by omega, Nat.pow_add] at h1
      have h2 : n / B64 ^ (f / 64) < B64 ^ (L - f / 64) := by rw [Nat.div_lt_iff_lt_mul (Nat.pow_pos b64_pos), Nat.mul_comm]; exact h1
      rw [hfw]
      exact Nat.lt_of_le_of_lt (Nat.div_le_self _ _) h2
    have hdig : ∀ k, n / 2 ^ (f + 64 * k) % B64 = n / 2 ^ f / B64 ^ k % B64 := fun k => by
      rw [Nat.pow_add, ← Nat.div_div_eq_div_mul, pow_b64]
    clear hp
    generalize hK : L - f / 64 = K at *
    have hwh : ((L : Int) - ((f / 64 : Nat) : Int)) = (K : Int) := by omega
    have hmk := make64 K (by omega)
    have hr0 := Row.made w .u64 K 24
    have hbA : Below w.heap.size w (w.alloc (.cells (madeCells #[.int .u64 0] K) 24)) := (Below.refl _ _).alloc (Nat.le_refl _) _
    have hst0 := ShrSt.start b64_two (n / 2 ^ f) K
    generalize n / 2 ^ f = q at *
    have HD := Lib.hid hdig
    have HQ := Lib.hid hq
    have HL := Lib.hid hL
    have HK := Lib.hid hK
    have HR0 := Lib.hid hr0
    have HFW := Lib.hid hfw
    clear hdig hq hL hr0 hK hfw
    generalize f / 64 = wh at *
    have hwb : decide (L ≤ wh) = false := decide_eq_false (by omega)
    have hwi : ¬ L ≤ wh := by omega
    go_enter Try.func92, Try.ntmps92
    go_wp2
    go_loopw [21] (fun t wr => ∃ (k : Nat) (zs : List Nat), k ≤ K ∧ t = .int .i64 (k : Int) ∧ ShrSt B64 q K k zs ∧ Row .u64 24 wr w.heap.size zs ∧ Below w.heap.size w wr) (fun t _ => K - (intOf t).toNat)
    case atStart => exact ⟨0, _, Nat.zero_le _, rfl, hst0, HR0.out, hbA⟩
    case round =>
      clear hst0 HR0 hbA hmk
      obtain ⟨k, zs, hk, rfl, hst, hrow, hbl⟩ := hrel
      by_cases hlt : k < K
      · obtain ⟨v, hv⟩ : ∃ v, n / 2 ^ (f + 64 * k) % B64 = v := ⟨_, rfl⟩
        have hwin := window_any A c L n (f + 64 * k) wr (hA.keep hbl) HL.out.symm (by omega) (by omega)
        rw [hv] at hwin
        push_cast at hwin
        have hst' := hst.step b64_two (v := v) (by rw [← hv, HD.out])
        obtain ⟨u, hu⟩ : ∃ u, zs[k]? = some u := ⟨zs[k]'(by have := hst.len; omega), List.getElem?_eq_getElem _⟩
        have hcu := hrow.cell hu
        have hfu := hrow.frozen k
        have hrow' := hrow.set k v
        have HV := Lib.hid hv
        have HU := Lib.hid hu
        have HW := Lib.hid hwin
        clear hv hu hwin
        go_wp2_with (go_at_call 77; refine HW.out.mono ?_; rintro e w1 ⟨rfl, rfl⟩)
        go_roundw
        case rel => exact ⟨k + 1, _, by omega, by go_num, hst', hrow', below_set hbl (Nat.le_refl _) _⟩
        case measure => simp [intOf]; omega
      · have hkL : k = K := by omega
        subst hkL
        clear hlt
        have hn := hrow.nums0 zs.length
        rw [List.take_length] at hn
        have HLEN := Lib.hid hst.len
        have hfin := hst.fin b64_two HQ.out
        have HF := Lib.hid hfin
        clear hfin
        go_wp2_with (go_at_call 78
                     refine (trim_any _ k k zs _ hn hst.low HLEN.out.symm (Nat.le_refl _) (by omega)).mono ?_
                     rintro e w1 ⟨rfl, rfl⟩)
        go_ret
        rw [← HF.out]
        have := ownH_of_trim hrow hst.low (by rw [HLEN.out]; omega) (Nat.le_refl w.heap.size)
        rw [HLEN.out] at this
        exact ⟨_, rfl, this, hbl⟩
  · exfalso
    rw [hfw, div_pow_len b64_two (by omega), Nat.zero_div] at hp
    omega

set_option maxHeartbeats 2000000 in
set_option maxRecDepth 100000 in
theorem divide_one_own (a b : Value) (m n : Nat) (w : World) (ha : W64 w a m) (hb : W64 w b n) (hn : (dig B64 n).length = 1) (hm : (dig B64 m).length ≤ 100000000) (hle : n ≤ m) :
    Calls Try.prog 88 #[a, b] w (DivOPost w (m / n) (m % n)) := by
  have hcmp := cmp64_call a b m n w ha hb (by omega) (by omega)
  have hc0 : 0 ≤ cmpN m n := by
    rcases Nat.lt_or_ge n m with h | h
    · rw [cmpN_gt h]; omega
    · obtain rfl : m = n := by omega
      rw [cmpN_eq]; omega
  generalize cmpN m n = cc at *
  have hnl := dig_len_lt b64_two (n := n)
  rw [hn, Nat.pow_one] at hnl
  have hn0 : 0 < n := by
    rcases Nat.eq_zero_or_pos n with h | h
    · rw [h, dig_zero] at hn; simp at hn
    · exact h
  have hdw := fun w' (h : W64 w' a m) => divideWord_call a m n w' h (by omega) hn0 hnl
  have hrem : m % n < B64 := Nat.lt_of_lt_of_le (Nat.mod_lt _ hn0) (Nat.le_of_lt hnl)
  have htr := fun w' => trim_any (some ⟨w'.heap.size, 0, none⟩) 1 1 [m % n] (w'.alloc (.cells #[.int .u64 ((m % n : Nat) : Int)] 24)) (Row.nums0 (row_one w' (m % n)) 1) (Low.cons hrem (Low.nil _)) rfl (Nat.le_refl _) (by omega)
  have hown := fun w' => ownH_of_trim (row_one w' (m % n)) (Low.cons hrem (Low.nil _)) (by simp) (Nat.le_refl w'.heap.size)
  have hv1 : val B64 [m % n] = m % n := by simp [val]
  have hl1 : ([m % n] : List Nat).length = 1 := rfl
  rw [hv1] at htr
  rw [hv1, hl1] at hown
  obtain ⟨A', c', rfl, hc', hB⟩ := hb
  obtain ⟨g, off, v, rfl, hg, hv, hcv⟩ := hB.at_ (i := 0) (by omega)
  have hvn : v = n := by
    have e := dig_getElem? b64_two hv
    rw [Nat.pow_zero, Nat.div_one, Nat.mod_eq_of_lt hnl] at e
    exact e
  subst hvn
  rw [Nat.add_zero] at hcv
  rw [hn] at hcmp hc' ⊢
  have HC := Lib.hid hcmp
  have HDW := Lib.hid hdw
  have HTR := Lib.hid htr
  have HOW := Lib.hid hown
  have HA := Lib.hid ha
  obtain ⟨A, c, rfl, _⟩ := ha
  clear hcmp hdw htr hown hB hv hnl hrem hn hle hv1 hl1
  generalize (dig B64 m).length = L at *
  generalize m % v = R at *
  generalize m / v = Q at *
  go_enter Try.func88, Try.ntmps88
  go_wp2_with (fail)
  refine HC.out.mono ?_
  rintro e w1 ⟨rfl, hb1⟩
  have hcv1 := (hb1.cell (p := ⟨g, off, none⟩) hg).trans hcv
  go_wp2_with (fail)
  refine (HDW.out _ (HA.out.keep hb1)).mono ?_
  rintro e w2 ⟨q, rfl, hq, hb2⟩
  go_wp2_with (fail)
  refine (HTR.out _).mono ?_
  rintro e w3 ⟨rfl, rfl⟩
  go_wp2
  go_ret2
  exact ⟨_, _, rfl, hq.is.keep (below_new _ _), (HOW.out _).is, fun _ => (HOW.out _).mono (Nat.le_trans hb1.size hb2.size), (below_at hb1 (Nat.le_refl _) hb2).alloc (below_at hb1 (Nat.le_refl _) hb2).size _⟩

set_option maxHeartbeats 2000000 in
set_option maxRecDepth 100000 in
theorem divide_long_own (a b : Value) (m n : Nat) (w : World) (ha : W64 w a m) (hb : W64 w b n) (hn : 2 ≤ (dig B64 n).length) (hm : (dig B64 m).length ≤ 10000000) (hle : n ≤ m) (hrp : 0 < m % n) (hs : (dig B64 n).length < 200 ∨ (dig B64 m).length < 199 + (dig B64 n).length) :
    Calls Try.prog 88 #[a, b] w (DivOPost w (m / n) (m % n)) := by
  have hll := lenm hle
  have hcmp := cmp64_call a b m n w ha hb (by omega) (by omega)
  have hc0 : 0 ≤ cmpN m n := by
    rcases Nat.lt_or_ge n m with h | h
    · rw [cmpN_gt h]; omega
    · obtain rfl : m = n := by omega
      rw [cmpN_eq]; omega
  generalize cmpN m n = cc at *
  obtain ⟨A', c', hbe, hc', hB⟩ := id hb
  obtain ⟨g, off, v, hAe, hg, hv, hcv⟩ := hB.at_ (i := (dig B64 n).length - 1) (by omega)
  obtain ⟨hN, hnl, hvl, hv0⟩ := normal_shift hn hv
  have hnb := nbits_ne hv0
  have hlz := fun w => lz_any v hvl w
  have hs64 : 64 - nbits v ≤ 64 := by omega
  generalize 64 - nbits v = s at *
  have hml := shift_len (m := m) (s := s) hs64
  have hge : (dig B64 n).length ≤ (dig B64 (n * 2 ^ s)).length := dig_len_mono (Nat.le_mul_of_pos_right _ (Nat.two_pow_pos s))
  have hsa := fun w' (h : W64 w' a m) => shiftLeft_any a m s w' h (by omega) (by omega)
  have hsb := fun w' (h : W64 w' b n) => shiftLeft_any b n s w' h (by omega) (by omega)
  have hdn := fun x y w' (h : W64 w' x (m * 2 ^ s)) (k : W64 w' y (n * 2 ^ s)) => divideNormal_any x y _ _ w' h k hN (by omega) (by omega) (by omega)
  have e1 : m * 2 ^ s / (n * 2 ^ s) = m / n := Nat.mul_div_mul_right _ _ (Nat.two_pow_pos s)
  have e2 : m * 2 ^ s % (n * 2 ^ s) = m % n * 2 ^ s := Nat.mul_mod_mul_right _ _ _
  rw [e1, e2] at hdn
  have hrl : (dig B64 (m % n * 2 ^ s)).length ≤ 100000000 := by
    have := lenm (show m % n * 2 ^ s ≤ m * 2 ^ s from Nat.mul_le_mul_right _ (Nat.mod_le _ _))
    omega
  have hsr := fun x w' (h : W64 w' x (m % n * 2 ^ s)) => shiftRight_own x _ s w' h (by omega) (by omega) (by rw [Nat.mul_div_cancel _ (Nat.two_pow_pos s)]; exact hrp)
  rw [Nat.mul_div_cancel _ (Nat.two_pow_pos s)] at hsr
  have HC := Lib.hid hcmp
  have HLZ := Lib.hid hlz
  have HSA := Lib.hid hsa
  have HSB := Lib.hid hsb
  have HDN := Lib.hid hdn
  have HSR := Lib.hid hsr
  have HA := Lib.hid ha
  have HB := Lib.hid hb
  obtain ⟨A, c, rfl, _⟩ := ha
  subst hbe hAe
  clear hcmp hlz hsa hsb hdn hsr hb hB hv hN hnl hml hge hrl e1 e2 hle hs hv0 hvl
  have hx : ((dig B64 n).length : Int) - 1 = (((dig B64 n).length - 1 : Nat) : Int) := by omega
  generalize (dig B64 m).length = L at *
  generalize hL' : (dig B64 n).length = L' at *
  obtain ⟨K, rfl⟩ : ∃ K, L' = K + 1 := ⟨L' - 1, by omega⟩
  rw [Nat.add_sub_cancel] at hcv
  clear hx hL'
  have hne : (((K : Int) + 1) == 1) = false := by simp; omega
  go_enter Try.func88, Try.ntmps88
  go_wp2_with (fail)
  refine HC.out.mono ?_
  rintro e w1 ⟨rfl, hb1⟩
  have hcv1 := (hb1.cell (p := ⟨g, off + K, none⟩) hg).trans hcv
  go_wp2_with (fail)
  refine (HLZ.out _).mono ?_
  rintro e w2 ⟨rfl, rfl⟩
  have ka := HA.out.keep hb1
  have kb := HB.out.keep hb1
  go_wp2_with (fail)
  refine (HSA.out _ ka).mono ?_
  rintro e w3 ⟨x, rfl, hx, hb3⟩
  go_wp2_with (fail)
  refine (HSB.out _ (kb.keep hb3)).mono ?_
  rintro e w4 ⟨y, rfl, hy, hb4⟩
  go_wp2_with (fail)
  refine (HDN.out _ _ _ (hx.is.keep hb4) hy.is).mono ?_
  rintro e w5 ⟨q, r, rfl, hq, hr, hb5⟩
  go_wp2_with (fail)
  refine (HSR.out _ _ hr).mono ?_
  rintro e w6 ⟨z, rfl, hz, hb6⟩
  go_wp2
  go_ret2
  exact ⟨_, _, rfl, hq.keep hb6, hz.is, fun _ => hz.mono (by have := hb1.size; have := hb3.size; have := hb4.size; have := hb5.size; omega), below_at (below_at (below_at (below_at hb1 (Nat.le_refl _) hb3) (Nat.le_refl _) hb4) (Nat.le_refl _) hb5) (Nat.le_refl _) hb6⟩


theorem divide_own (a b : Value) (m n : Nat) (w : World) (ha : W64 w a m) (hb : W64 w b n) (hn0 : 0 < n) (hm : (dig B64 m).length ≤ 10000000) (hle : n ≤ m) (hs : (dig B64 n).length < 200) :
    Calls Try.prog 88 #[a, b] w (DivOPost w (m / n) (m % n)) := by
  have h1 := dig_len_pos (n := n) (by omega)
  rcases Nat.lt_or_ge (dig B64 n).length 2 with h2 | h2
  · exact divide_one_own a b m n w ha hb (by omega) (by omega) hle
  · rcases Nat.eq_zero_or_pos (m % n) with h3 | h3
    · refine (divide_any a b m n w ha hb hn0 (by omega) hm (.inl hs)).mono ?_
      rintro e w' ⟨v, u, e1, e2, e3, e4⟩
      exact ⟨v, u, e1, e2, e3, fun h => by omega, e4⟩
    · exact divide_long_own a b m n w ha hb h2 hm hle h3 (.inl hs)
end Go.Proofs.Ytaegkhdkhgemmaa

namespace Go.Proofs.Ytaegkhdkhgemmaa
open Go.RowKit Num

theorem apply_any (B m n a b : Nat) (p q s t : Int) (u v : Value) (w : World) (hst : Num.Steps m n p q s t a b) (hq : q ≠ 0) (h : TwoH B w u v m n) (hle : n ≤ m) (hm : (dig B64 m).length ≤ 1000000) (hBw : B ≤ w.heap.size) :
    Calls Try.prog 120 #[.agg #[.int .i64 p, .int .i64 q, .int .i64 s, .int .i64 t], u, v] w (ApPost B w a b) := by
  obtain ⟨g1, c1, g2, c2, rfl, rfl, hB, hg, h1, h2⟩ := h
  have hl := dig_len_mono hle
  by_cases h0 : 0 < q
  · rcases hst.side with ⟨_, hx, _, _⟩ | ⟨hp, hq', hs, ht⟩
    · omega
    · exact apply_pos B g1 c1 g2 c2 m n a b q.toNat (-p).toNat (-t).toNat s.toNat p q s t w hst h0 (by omega) (by omega) (by omega) (by omega) hB hg h1 h2 hl hm hBw
  · rcases hst.side with ⟨hp, hq', hs, ht⟩ | ⟨_, hx, _, _⟩
    · exact apply_neg B g1 c1 g2 c2 m n a b p.toNat (-q).toNat (-s).toNat t.toNat p q s t w hst h0 (by omega) (by omega) (by omega) (by omega) hB hg h1 h2 hl hm hBw
    · omega

theorem W64.unique {w : World} {v : Value} {m n : Nat} (h : W64 w v m) (k : W64 w v n) : m = n := by
  obtain ⟨A, c, rfl, _, h1⟩ := h
  obtain ⟨A', c', e, _, h2⟩ := k
  injection e with e1 e2 e3
  subst e1
  have : dig B64 m = dig B64 n := by
    apply List.ext_getElem e2
    intro i hi hi'
    obtain ⟨g, off, x, e4, _, hx, hc⟩ := h1.at_ hi
    obtain ⟨g', off', y, e5, _, hy, hc'⟩ := h2.at_ hi'
    rw [e4] at e5
    simp only [Option.some.injEq, Addr.mk.injEq] at e5
    obtain ⟨rfl, rfl, _⟩ := e5
    rw [hc] at hc'
    simp only [Option.some.injEq, Value.int.injEq, true_and] at hc'
    rw [List.getElem?_eq_getElem hi] at hx
    rw [List.getElem?_eq_getElem hi'] at hy
    simp only [Option.some.injEq] at hx hy
    omega
  rw [← val_dig b64_two m, this, val_dig b64_two]
open Classical in
/-- The number that a slice value reads as, 0 where there is none. -/
noncomputable def numOf (w : World) (v : Value) : Nat := if h : ∃ n, W64 w v n then Classical.choose h else 0
theorem numOf_eq {w : World} {v : Value} {n : Nat} (h : W64 w v n) : numOf w v = n := by
  have hx : ∃ n, W64 w v n := ⟨n, h⟩
  unfold numOf
  rw [dif_pos hx]
  exact (Classical.choose_spec hx).unique h

theorem TwoH.fst {B : Nat} {w : World} {u v : Value} {m n : Nat} (h : TwoH B w u v m n) : W64 w u m := by
  obtain ⟨g1, c1, g2, c2, rfl, _, hB, _, h1, _⟩ := h
  exact OwnH.is ⟨g1, c1, rfl, hB, h1⟩
theorem TwoH.snd {B : Nat} {w : World} {u v : Value} {m n : Nat} (h : TwoH B w u v m n) : W64 w v n := by
  obtain ⟨g1, c1, g2, c2, _, rfl, hB, hg, _, h1⟩ := h
  exact OwnH.is (B := B) ⟨g2, c2, rfl, by omega, h1⟩
theorem TwoH.keep {B : Nat} {w w' : World} {u v : Value} {m n : Nat} (h : TwoH B w u v m n) (hb : Below w.heap.size w w') : TwoH B w' u v m n := by
  obtain ⟨g1, c1, g2, c2, e1, e2, hB, hg, h1, h2⟩ := h
  exact ⟨g1, c1, g2, c2, e1, e2, hB, hg, h1.keep hb, h2.keep hb⟩
/-- The second of two, and one that was made after. -/
theorem TwoH.next {B : Nat} {w w' : World} {u v r : Value} {m n k : Nat} (h : TwoH B w u v m n) (hb : Below w.heap.size w w') (hr : OwnH w.heap.size w' r k) : TwoH B w' v r n k := by
  obtain ⟨g1, c1, g2, c2, e1, e2, hB, hg, h1, h2⟩ := h
  obtain ⟨g3, c3, e3, h3, h4⟩ := hr
  have := h2.lt
  exact ⟨g2, c2, g3, c3, e2, e3, by omega, by omega, h2.keep hb, h4⟩
theorem TwoH.made {B : Nat} {w1 w2 : World} {u v : Value} {m n : Nat} (h : OwnH B w1 u m) (hb : Below w1.heap.size w1 w2) (k : OwnH w1.heap.size w2 v n) : TwoH B w2 u v m n := by
  obtain ⟨g1, c1, e1, h1, h2⟩ := h
  obtain ⟨g3, c3, e3, h3, h4⟩ := k
  have := h2.lt
  exact ⟨g1, c1, g3, c3, e1, e3, h1, by omega, h2.keep hb, h4⟩

/-- What holds at each round: x and y have the divisors of m and n; while y isn't 0 both lie in blocks of the call's own. -/
def GcdSt (B m n : Nat) (u v : Value) (w : World) : Prop :=
  ∃ x y, W64 w u x ∧ W64 w v y ∧ (0 < y → TwoH B w u v x y) ∧ y ≤ x ∧ x ≤ m ∧ Nat.gcd x y = Nat.gcd m n

set_option maxHeartbeats 4000000 in
set_option maxRecDepth 100000 in
theorem gcd_ge (ad ad' : Addr) (c c' L L' m n : Nat) (w : World) (hA : Nums .u64 w (some ad) (dig B64 m)) (hA' : Nums .u64 w (some ad') (dig B64 n)) (hL : L = (dig B64 m).length) (hL' : L' = (dig B64 n).length) (hc : L ≤ c) (hc' : L' ≤ c') (hm : L < 200) (hle : n ≤ m) :
    Calls Try.prog 98 #[.slice (some ad) L c, .slice (some ad') L' c'] w (NumPost w (Nat.gcd m n)) := by
  have hl := dig_len_mono hle
  have hcmp := cmp64_call (.slice (some ad) L c) (.slice (some ad') L' c') m n w ⟨_, _, by rw [hL], by omega, hA⟩ ⟨_, _, by rw [hL'], by omega, hA'⟩ (by omega) (by omega)
  have hc0 : 0 ≤ cmpN m n := by unfold cmpN; split <;> (try split) <;> omega
  have hk1 := fun w1 (hb : Below w.heap.size w w1) => clone_any ad c L m w1 (hA.keep hb) hL (by omega)
  have hk2 := fun w1 (hb : Below w.heap.size w w1) => clone_any ad' c' L' n w1 (hA'.keep hb) hL' (by omega)
  have hld := fun u v x y w' (h1 : W64 w' u x) (h2 : W64 w' v y) (hy : y ≤ x) (hx : x ≤ m) => lead_any u v x y w' h1 h2 (by have := dig_len_mono hx; omega) hy
  have hap := fun a b p q s t u v x y w' (hst : Num.Steps x y p q s t a b) (hq : q ≠ 0) (h : TwoH w.heap.size w' u v x y) (hy : y ≤ x) (hx : x ≤ m) (hB : w.heap.size ≤ w'.heap.size) =>
    apply_any w.heap.size x y a b p q s t u v w' hst hq h hy (by have := dig_len_mono hx; omega) hB
  have hdv := fun u v x y w' (h1 : W64 w' u x) (h2 : W64 w' v y) (h0 : 0 < y) (hy : y ≤ x) (hx : x ≤ m) => divide_own u v x y w' h1 h2 h0 (by have := dig_len_mono hx; omega) hy (by have := dig_len_mono hx; have := dig_len_mono hy; omega)
  generalize cmpN m n = cc at *
  have HC := Lib.hid hcmp
  have HK1 := Lib.hid hk1
  have HK2 := Lib.hid hk2
  have HLD := Lib.hid hld
  have HAP := Lib.hid hap
  have HDV := Lib.hid hdv
  clear hcmp hk1 hk2 hld hap hdv hA hA' hL hL' hl
  go_enter Try.func98, Try.ntmps98
  go_wp2_with (fail)
  refine HC.out.mono ?_
  rintro e w1 ⟨rfl, hb1⟩
  go_wp2_with (fail)
  refine (HK1.out _ hb1).mono ?_
  rintro e w2 ⟨v1, rfl, hv1, hb2⟩
  have b2 := below_at hb1 (Nat.le_refl _) hb2
  go_wp2_with (fail)
  refine (HK2.out _ b2).mono ?_
  rintro e w3 ⟨v2, rfl, hv2, hb3⟩
  have b3 := below_at b2 (Nat.le_refl _) hb3
  have htw := TwoH.made (hv1.mono hb1.size) hb3 hv2
  have HTW := Lib.hid htw
  clear htw
  go_wp2
  go_loopw [0, 1] (fun u v wr => GcdSt w.heap.size m n u v wr ∧ Below w.heap.size w wr) (fun _ v wr => numOf wr v)
  case atStart => exact ⟨⟨m, n, HTW.out.fst, HTW.out.snd, fun _ => HTW.out, hle, Nat.le_refl _, rfl⟩, b3⟩
  case round =>
    clear b2 b3 hv1 hv2 hb1 hb2 hb3
    obtain ⟨⟨x, y, hu, hv, htw, hyx, hxm, hgc⟩, hbl⟩ := hrel
    by_cases hy0 : y = 0
    · subst hy0
      rw [Nat.gcd_zero_right] at hgc
      rw [hgc] at hu
      obtain ⟨A, cv, rfl, _, _⟩ := hv
      have hz : (dig B64 0).length = 0 := by rw [dig_zero]; rfl
      rw [hz]
      have HU := Lib.hid hu
      clear hu hz htw hgc
      go_wp2
      go_ret
      exact ⟨_, rfl, HU.out, hbl⟩
    · have hyp : 0 < y := by omega
      have htw := htw hyp
      have hlp := dig_len_pos (n := y) hy0
      have hv' := hv
      obtain ⟨A, cv, rfl, hcv, _⟩ := hv'
      obtain ⟨Ly, hLy⟩ : ∃ Ly, (dig B64 y).length = Ly := ⟨_, rfl⟩
      rw [hLy] at hlp hcv hv htw ⊢
      have HU := Lib.hid hu
      have HV := Lib.hid hv
      have HT := Lib.hid htw
      have HG := Lib.hid hgc
      clear hu hv htw hgc hLy
      go_wp2_with (fail)
      refine (HLD.out _ _ x y _ HU.out HV.out hyx hxm).mono ?_
      rintro e w4 ⟨p, q, s, t, a, b, rfl, hst, hb4⟩
      have hba := hb4.alloc hb4.size (Obj.cells #[.int .i64 p, .int .i64 q, .int .i64 s, .int .i64 t] 129)
      have k4 : Four (w4.alloc (Obj.cells #[.int .i64 p, .int .i64 q, .int .i64 s, .int .i64 t] 129)) w4.heap.size p q s t := heap_alloc_new w4 _
      have f0 := k4.c0
      have f1 := k4.c1
      have f2 := k4.c2
      have f3 := k4.c3
      have hba0 := below_at hbl (Nat.le_refl _) hba
      have HST := Lib.hid hst
      clear hst
      by_cases hq : q = 0
      · have hqb : (q != 0) = false := by simpa using hq
        clear hq
        go_wp2_with (fail)
        refine (HDV.out _ _ x y _ (HU.out.keep hba) (HV.out.keep hba) hyp hyx hxm).mono ?_
        rintro e w5 ⟨qv, rv, rfl, hqv, hrv, hro, hb5⟩
        have hb6 := below_at hba (Nat.le_refl _) hb5
        have hb7 := below_at hba0 (Nat.le_refl _) hb5
        have hm := Nat.mod_lt x hyp
        go_wp2
        go_roundw
        case rel => exact ⟨⟨y, x % y, (HV.out.keep hba).keep hb5, hrv, fun h => (HT.out.keep hba).next hb5 (hro h), by omega, by omega, by rw [← HG.out, Nat.gcd_comm y, ← Nat.gcd_rec, Nat.gcd_comm]⟩, hb7⟩
        case measure => rw [numOf_eq hrv, numOf_eq HV.out]; exact hm
      · have hqb : (q != 0) = true := by simpa using hq
        go_wp2_with (fail)
        refine (HAP.out a b p q s t _ _ x y _ HST.out hq (HT.out.keep hba) hyx hxm (Nat.le_trans hbl.size hba.size)).mono ?_
        rintro e w5 ⟨u5, v5, rfl, ht5, hb5⟩
        have hb7 : Below w.heap.size w w5 := hba0.trans hb5
        have hlt := HST.out.lt
        have haA := HST.out.aA
        have hle2 := HST.out.le
        have hg2 := HST.out.gcd
        go_wp2
        go_roundw
        case rel => exact ⟨⟨a, b, ht5.fst, ht5.snd, fun _ => ht5, hle2, by omega, by rw [hg2]; exact HG.out⟩, hb7⟩
        case measure => rw [numOf_eq ht5.snd, numOf_eq HV.out]; omega
set_option maxHeartbeats 4000000 in
set_option maxRecDepth 100000 in
theorem gcd_lt (ad ad' : Addr) (c c' L L' m n : Nat) (w : World) (hA : Nums .u64 w (some ad) (dig B64 m)) (hA' : Nums .u64 w (some ad') (dig B64 n)) (hL : L = (dig B64 m).length) (hL' : L' = (dig B64 n).length) (hc : L ≤ c) (hc' : L' ≤ c') (hm : L < 200) (hlt : n < m) :
    Calls Try.prog 98 #[.slice (some ad') L' c', .slice (some ad) L c] w (NumPost w (Nat.gcd m n)) := by
  have hle : n ≤ m := by omega
  have hl := dig_len_mono hle
  have hcmp := cmp64_call (.slice (some ad') L' c') (.slice (some ad) L c) n m w ⟨_, _, by rw [hL'], by omega, hA'⟩ ⟨_, _, by rw [hL], by omega, hA⟩ (by omega) (by omega)
  have hc0 : cmpN n m < 0 := by rw [cmpN_lt hlt]; omega
  have hk1 := fun w1 (hb : Below w.heap.size w w1) => clone_any ad c L m w1 (hA.keep hb) hL (by omega)
  have hk2 := fun w1 (hb : Below w.heap.size w w1) => clone_any ad' c' L' n w1 (hA'.keep hb) hL' (by omega)
  have hld := fun u v x y w' (h1 : W64 w' u x) (h2 : W64 w' v y) (hy : y ≤ x) (hx : x ≤ m) => lead_any u v x y w' h1 h2 (by have := dig_len_mono hx; omega) hy
  have hap := fun a b p q s t u v x y w' (hst : Num.Steps x y p q s t a b) (hq : q ≠ 0) (h : TwoH w.heap.size w' u v x y) (hy : y ≤ x) (hx : x ≤ m) (hB : w.heap.size ≤ w'.heap.size) =>
    apply_any w.heap.size x y a b p q s t u v w' hst hq h hy (by have := dig_len_mono hx; omega) hB
  have hdv := fun u v x y w' (h1 : W64 w' u x) (h2 : W64 w' v y) (h0 : 0 < y) (hy : y ≤ x) (hx : x ≤ m) => divide_own u v x y w' h1 h2 h0 (by have := dig_len_mono hx; omega) hy (by have := dig_len_mono hx; have := dig_len_mono hy; omega)
  generalize cmpN n m = cc at *
  have HC := Lib.hid hcmp
  have HK1 := Lib.hid hk1
  have HK2 := Lib.hid hk2
  have HLD := Lib.hid hld
  have HAP := Lib.hid hap
  have HDV := Lib.hid hdv
  clear hlt hcmp hk1 hk2 hld hap hdv hA hA' hL hL' hl
  go_enter Try.func98, Try.ntmps98
  go_wp2_with (fail)
  refine HC.out.mono ?_
  rintro e w1 ⟨rfl, hb1⟩
  go_wp2_with (fail)
  refine (HK1.out _ hb1).mono ?_
  rintro e w2 ⟨v1, rfl, hv1, hb2⟩
  have b2 := below_at hb1 (Nat.le_refl _) hb2
  go_wp2_with (fail)
  refine (HK2.out _ b2).mono ?_
  rintro e w3 ⟨v2, rfl, hv2, hb3⟩
  have b3 := below_at b2 (Nat.le_refl _) hb3
  have htw := TwoH.made (hv1.mono hb1.size) hb3 hv2
  have HTW := Lib.hid htw
  clear htw
  go_wp2
  go_loopw [0, 1] (fun u v wr => GcdSt w.heap.size m n u v wr ∧ Below w.heap.size w wr) (fun _ v wr => numOf wr v)
  case atStart => exact ⟨⟨m, n, HTW.out.fst, HTW.out.snd, fun _ => HTW.out, hle, Nat.le_refl _, rfl⟩, b3⟩
  case round =>
    clear b2 b3 hv1 hv2 hb1 hb2 hb3
    obtain ⟨⟨x, y, hu, hv, htw, hyx, hxm, hgc⟩, hbl⟩ := hrel
    by_cases hy0 : y = 0
    · subst hy0
      rw [Nat.gcd_zero_right] at hgc
      rw [hgc] at hu
      obtain ⟨A, cv, rfl, _, _⟩ := hv
      have hz : (dig B64 0).length = 0 := by rw [dig_zero]; rfl
      rw [hz]
      have HU := Lib.hid hu
      clear hu hz htw hgc
      go_wp2
      go_ret
      exact ⟨_, rfl, HU.out, hbl⟩
    · have hyp : 0 < y := by omega
      have htw := htw hyp
      have hlp := dig_len_pos (n := y) hy0
      have hv' := hv
      obtain ⟨A, cv, rfl, hcv, _⟩ := hv'
      obtain ⟨Ly, hLy⟩ : ∃ Ly, (dig B64 y).length = Ly := ⟨_, rfl⟩
      rw [hLy] at hlp hcv hv htw ⊢
      have HU := Lib.hid hu
      have HV := Lib.hid hv
      have HT := Lib.hid htw
      have HG := Lib.hid hgc
      clear hu hv htw hgc hLy
      go_wp2_with (fail)
      refine (HLD.out _ _ x y _ HU.out HV.out hyx hxm).mono ?_
      rintro e w4 ⟨p, q, s, t, a, b, rfl, hst, hb4⟩
      have hba := hb4.alloc hb4.size (Obj.cells #[.int .i64 p, .int .i64 q, .int .i64 s, .int .i64 t] 129)
      have k4 : Four (w4.alloc (Obj.cells #[.int .i64 p, .int .i64 q, .int .i64 s, .int .i64 t] 129)) w4.heap.size p q s t := heap_alloc_new w4 _
      have f0 := k4.c0
      have f1 := k4.c1
      have f2 := k4.c2
      have f3 := k4.c3
      have hba0 := below_at hbl (Nat.le_refl _) hba
      have HST := Lib.hid hst
      clear hst
      by_cases hq : q = 0
      · have hqb : (q != 0) = false := by simpa using hq
        clear hq
        go_wp2_with (fail)
        refine (HDV.out _ _ x y _ (HU.out.keep hba) (HV.out.keep hba) hyp hyx hxm).mono ?_
        rintro e w5 ⟨qv, rv, rfl, hqv, hrv, hro, hb5⟩
        have hb6 := below_at hba (Nat.le_refl _) hb5
        have hb7 := below_at hba0 (Nat.le_refl _) hb5
        have hm := Nat.mod_lt x hyp
        go_wp2
        go_roundw
        case rel => exact ⟨⟨y, x % y, (HV.out.keep hba).keep hb5, hrv, fun h => (HT.out.keep hba).next hb5 (hro h), by omega, by omega, by rw [← HG.out, Nat.gcd_comm y, ← Nat.gcd_rec, Nat.gcd_comm]⟩, hb7⟩
        case measure => rw [numOf_eq hrv, numOf_eq HV.out]; exact hm
      · have hqb : (q != 0) = true := by simpa using hq
        go_wp2_with (fail)
        refine (HAP.out a b p q s t _ _ x y _ HST.out hq (HT.out.keep hba) hyx hxm (Nat.le_trans hbl.size hba.size)).mono ?_
        rintro e w5 ⟨u5, v5, rfl, ht5, hb5⟩
        have hb7 : Below w.heap.size w w5 := hba0.trans hb5
        have hlt := HST.out.lt
        have haA := HST.out.aA
        have hle2 := HST.out.le
        have hg2 := HST.out.gcd
        go_wp2
        go_roundw
        case rel => exact ⟨⟨a, b, ht5.fst, ht5.snd, fun _ => ht5, hle2, by omega, by rw [hg2]; exact HG.out⟩, hb7⟩
        case measure => rw [numOf_eq ht5.snd, numOf_eq HV.out]; omega

/-- A slice that is not nil. -/
def SomeS (v : Value) : Prop := ∃ ad L c, v = .slice (some ad) L c
theorem OwnW.some {B : Nat} {w : World} {v : Value} {n : Nat} (h : OwnW B w v n) : SomeS v := by
  obtain ⟨g, c, zs, rfl, _⟩ := h
  exact ⟨_, _, _, rfl⟩
/-- gcd of two numbers whose slices are not nil. -/
theorem gcd_any (a b : Value) (m n : Nat) (w : World) (ha : W64 w a m) (hb : W64 w b n) (sa : SomeS a) (sb : SomeS b) (hm : (dig B64 m).length < 200) (hn : (dig B64 n).length < 200) : Calls Try.prog 98 #[a, b] w (NumPost w (Nat.gcd m n)) := by
  obtain ⟨ad, L, c0, rfl⟩ := sa
  obtain ⟨ad', L', c0', rfl⟩ := sb
  obtain ⟨A, c, e1, hc, k1⟩ := ha
  obtain ⟨A', c', e2, hc', k2⟩ := hb
  injection e1 with e1 e3 e4
  injection e2 with e2 e5 e6
  subst e1 e2 e3 e4 e5 e6
  rcases Nat.lt_or_ge m n with h | h
  · have := gcd_lt _ _ _ _ _ _ n m w k2 k1 rfl rfl hc' hc hn h
    rwa [Nat.gcd_comm] at this
  · exact gcd_ge _ _ _ _ _ _ m n w k1 k2 rfl rfl hc hc' hm h
end Go.Proofs.Ytaegkhdkhgemmaa

/- Plain laws: the two halves of a number, and Karatsuba's three products. -/
namespace Go.Proofs.Num
theorem dig_drop {b : Nat} (hb : 2 ≤ b) (n k : Nat) : (dig b n).drop k = dig b (n / b ^ k) := by
  induction k generalizing n with
  | zero => simp
  | succ k ih =>
    by_cases hn : n = 0
    · subst hn; simp [dig_zero]
    · rw [dig_pos hb hn, List.drop_succ_cons, ih, Nat.div_div_eq_div_mul, Nat.pow_succ, Nat.mul_comm]
theorem val_take_dig {b : Nat} (hb : 2 ≤ b) (n k : Nat) (hk : k ≤ (dig b n).length) : val b ((dig b n).take k) = n % b ^ k := by
  have h1 := val_take_drop b (dig b n) k hk
  rw [val_dig hb, dig_drop hb, val_dig hb] at h1
  have h2 := val_lt b _ ((low_dig hb n).take k)
  rw [List.length_take, Nat.min_eq_left hk] at h2
  have h3 := Nat.mod_add_div n (b ^ k)
  omega
theorem dig_len_mod {b : Nat} (hb : 2 ≤ b) (n k : Nat) : (dig b (n % b ^ k)).length ≤ k := dig_len_le hb (Nat.mod_lt _ (Nat.pow_pos (by omega)))
theorem dig_len_div {b : Nat} (hb : 2 ≤ b) (n k : Nat) : (dig b (n / b ^ k)).length = (dig b n).length - k := by rw [← dig_drop hb, List.length_drop]
/-- The middle product, without the two others. -/
theorem kara_mid (m0 m1 n0 n1 : Nat) : (m0 + m1) * (n0 + n1) - m0 * n0 - m1 * n1 = m0 * n1 + m1 * n0 ∧ m0 * n0 ≤ (m0 + m1) * (n0 + n1) ∧ m1 * n1 ≤ (m0 + m1) * (n0 + n1) - m0 * n0 := by
  have e : (m0 + m1) * (n0 + n1) = m0 * n0 + m0 * n1 + m1 * n0 + m1 * n1 := by grind
  rw [e]
  omega
theorem kara_sum (m0 m1 n0 n1 x : Nat) : (m0 + x * m1) * (n0 + x * n1) = m0 * n0 + x * x * (m1 * n1) + x * (m0 * n1 + m1 * n0) := by grind
end Go.Proofs.Num
namespace Go.Proofs.Num
theorem val_lay_add {b : Nat} {zs ys : List Nat} {off : Nat} (h : off + ys.length ≤ zs.length) (hz : ∀ (i v : Nat), off ≤ i → i < off + ys.length → zs[i]? = some v → v = 0) :
    val b (zs.take off ++ (ys ++ zs.drop (off + ys.length))) = val b zs + b ^ off * val b ys := by
  have e1 := val_take_drop b zs off (by omega)
  have e2 := val_take_drop b (zs.drop off) ys.length (by rw [List.length_drop]; omega)
  have e3 : val b ((zs.drop off).take ys.length) = 0 := val_zero fun i v hv => by
    have := seg_get? zs off ys.length i
    unfold seg at this
    rw [this] at hv
    split at hv
    · exact hz _ v (by omega) (by omega) hv
    · cases hv
  rw [e3, List.drop_drop] at e2
  rw [val_append, val_append, List.length_take, Nat.min_eq_left (by omega), e1, e2]
  grind
/-- What addTo leaves of a whole number, when nothing is carried out of it. -/
theorem AddSt.whole {b : Nat} {zs xs zs' : List Nat} {off n c N : Nat} (h : AddSt b zs xs off n zs' c) (hn : off + n = zs.length) (hx : xs.length ≤ n) (hN : val b zs + b ^ off * val b xs = N) (hlt : N < b ^ zs.length) : val b zs' = N := by
  have e := h.eq
  rw [List.take_of_length_le hx] at e
  have l := h.len
  have e1 := val_split (b := b) (zs := zs) (i := off) (j := n) (r := 0) (by omega)
  have e2 := val_split (b := b) (zs := zs') (i := off) (j := n) (r := 0) (by omega)
  have e3 : seg zs' 0 off = seg zs 0 off := seg_congr fun i _ h2 => h.far i (by omega)
  have z1 : val b (seg zs (off + n) 0) = 0 := by rw [seg_zero]; rfl
  have z2 : val b (seg zs' (off + n) 0) = 0 := by rw [seg_zero]; rfl
  rw [z1] at e1
  rw [z2, e3] at e2
  have e4 : val b zs' + b ^ zs.length * c = N := by
    rw [← hN, ← hn, Nat.pow_add]
    clear h hlt hN z1 z2 e3 l
    grind
  have h0 : c = 0 := by
    rcases Nat.eq_zero_or_pos c with h | h
    · exact h
    · have : b ^ zs.length * 1 ≤ b ^ zs.length * c := Nat.mul_le_mul_left _ h
      omega
  subst h0
  simpa using e4
end Go.Proofs.Num

namespace Go.Proofs.Ytaegkhdkhgemmaa
open Go.RowKit Num

/-- The first len words of row g make n. -/
structure RawAt (w : World) (g : Nat) (zs : List Nat) (len n : Nat) : Prop where
  row : Row .u64 24 w g zs
  low : Low B64 zs
  le : len ≤ zs.length
  eq : val B64 (seg zs 0 len) = n

theorem subFrom_raw (g len c n m : Nat) (zs : List Nat) (x : Value) (w0 w : World) (hz : RawAt w g zs len m) (hx : W64 w0 x n) (hb : Below w0.heap.size w0 w) (hg : w0.heap.size ≤ g) (hle : n ≤ m) (hbig : len ≤ 1000000000000) :
    Calls Try.prog 109 #[.slice (some ⟨g, 0, none⟩) len c, x] w fun e w' => ∃ zs', e = .returned (.tuple #[]) ∧ RawAt w' g zs' len (m - n) ∧ zs'.length = zs.length ∧ w.grownBy w' (some g) := by
  obtain ⟨A, d, rfl, _, hA⟩ := hx
  have hm : m < B64 ^ len := by
    have := val_lt B64 _ (seg_low hz.low 0 len)
    rw [seg_len (by have := hz.le; omega), hz.eq] at this
    exact this
  have hl : (dig B64 n).length ≤ len := dig_len_le b64_two (by omega)
  refine (subFrom_any g 0 len c d _ zs (dig B64 n) A w hz.row hz.low (by have := hz.le; omega) (hA.keep hb) (dig_low64 n) (nums_ne hA hg) rfl hl hbig).mono ?_
  rintro e w' ⟨zs', cy, rfl, hst, hr, hgr⟩
  have e := hst.eq
  rw [List.take_of_length_le hl, val_dig b64_two, hz.eq] at e
  have h1 := val_lt B64 _ (seg_low hst.low 0 len)
  rw [seg_len (by have := hz.le; have := hst.len; omega)] at h1
  have h0 : cy = 0 := by
    rcases Nat.eq_zero_or_pos cy with h | h
    · exact h
    · have : B64 ^ len * 1 ≤ B64 ^ len * cy := Nat.mul_le_mul_left _ h
      omega
  subst h0
  exact ⟨zs', rfl, ⟨hr, hst.low, by rw [hst.len]; exact hz.le, by simp at e; omega⟩, hst.len, hgr⟩

/-- The low half, trimmed. -/
theorem low_half (A : Option Addr) (c n h : Nat) (w : World) (hA : Nums .u64 w A (dig B64 n)) (hh : h ≤ (dig B64 n).length) (hc : (dig B64 n).length ≤ c) (hbig : h ≤ 1000000000000) :
    Calls Try.prog 78 #[.slice A h c] w fun e w' => e = .returned (.slice A (dig B64 (n % B64 ^ h)).length c) ∧ w = w' := by
  have := trim_any A c h ((dig B64 n).take h) w (hA.take h) ((dig_low64 n).take h) (by rw [List.length_take]; omega) (by omega) hbig
  rw [val_take_dig b64_two n h hh] at this
  exact this
theorem low_is (A : Option Addr) (c n h : Nat) (w : World) (hA : Nums .u64 w A (dig B64 n)) (hh : h ≤ (dig B64 n).length) (hc : (dig B64 n).length ≤ c) : W64 w (.slice A (dig B64 (n % B64 ^ h)).length c) (n % B64 ^ h) := by
  have h1 := trim_take b64_two ((dig_low64 n).take h)
  have h2 := dig_len_mod b64_two n h
  rw [val_take_dig b64_two n h hh] at h1
  refine ⟨A, c, rfl, by omega, ?_⟩
  have := (hA.take h).take (dig B64 (n % B64 ^ h)).length
  rw [h1] at this
  exact this
/-- The high half. -/
theorem high_is (g off c n h : Nat) (w : World) (hA : Nums .u64 w (some ⟨g, off, none⟩) (dig B64 n)) (hc : (dig B64 n).length ≤ c) : W64 w (.slice (some ⟨g, off + h, none⟩) ((dig B64 n).length - h) (c - h)) (n / B64 ^ h) := by
  refine ⟨_, _, by rw [dig_len_div b64_two], by rw [dig_len_div b64_two]; omega, fun hp => ?_⟩
  rw [dig_len_div b64_two] at hp
  obtain ⟨g', off', e, hg, hcell⟩ := hA (by omega)
  injection e with e
  injection e with e1 e2 e3
  subst e1 e2
  refine ⟨g, off + h, rfl, hg, fun i v hv => ?_⟩
  rw [← dig_drop b64_two, List.getElem?_drop] at hv
  have := hcell (h + i) v hv
  rw [← Nat.add_assoc] at this
  exact this
end Go.Proofs.Ytaegkhdkhgemmaa

namespace Go.Proofs.Ytaegkhdkhgemmaa
open Go.RowKit Num

theorem lt_of_wlen {n k : Nat} (h : (dig B64 n).length ≤ k) : n < B64 ^ k := Nat.lt_of_lt_of_le (dig_len_lt b64_two) (Nat.pow_le_pow_right b64_pos h)
theorem wlen_add {m n K : Nat} (hm : (dig B64 m).length ≤ K) (hn : (dig B64 n).length ≤ K) : (dig B64 (m + n)).length ≤ K + 1 := dig_len_le b64_two (two_pow_lt b64_two (lt_of_wlen hm) (lt_of_wlen hn))

theorem val_two {b L k : Nat} {xs ys : List Nat} (hx : xs.length ≤ k) (hy : k + ys.length ≤ L) : val b (lay (lay (List.replicate L 0) 0 xs) k ys) = val b xs + b ^ k * val b ys := by
  have hl : (lay (List.replicate L 0) 0 xs).length = L := by rw [lay_len (by simp only [List.length_replicate]; omega)]; simp
  have := val_lay_add (b := b) (zs := lay (List.replicate L 0) 0 xs) (ys := ys) (off := k) (by rw [hl]; exact hy) fun i v h1 _ hv => by
    unfold lay at hv
    rw [List.take_zero, List.nil_append, List.getElem?_append_right (by omega), List.getElem?_drop, List.getElem?_replicate] at hv
    split at hv
    · injection hv with hv; exact hv.symm
    · cases hv
  rw [val_lay0] at this
  exact this
theorem mid_lt {m n x y p q a b B N h : Nat} (e : m * n = x + y + B ^ h * (p * q + a * b)) (hlt : m * n < B ^ (h + N)) : p * q + a * b < B ^ N := by
  rw [Nat.pow_add] at hlt
  exact Nat.lt_of_mul_lt_mul_left (a := B ^ h) (by omega)

set_option maxHeartbeats 4000000 in
set_option maxRecDepth 100000 in
theorem kara_any {K : Nat} (HM : MulSpec K) (ga oa c gb ob c' La Lb m n : Nat) (w : World) (hA : Nums .u64 w (some ⟨ga, oa, none⟩) (dig B64 m)) (hB : Nums .u64 w (some ⟨gb, ob, none⟩) (dig B64 n))
    (hLa : La = (dig B64 m).length) (hLb : Lb = (dig B64 n).length) (h80 : 80 ≤ Lb) (hle : Lb ≤ La) (h2 : La < 2 * Lb) (hc : La ≤ c) (hc' : Lb ≤ c') (hbig : La ≤ 1000000000) (hK : (La + 1) / 2 + 1 ≤ K) (hcb : ¬ c' = (La + 1) / 2) :
    Calls Try.prog 130 #[.slice (some ⟨ga, oa, none⟩) La c, .slice (some ⟨gb, ob, none⟩) Lb c'] w (SumPost w (m * n)) := by
  obtain ⟨h, hh⟩ : ∃ h, (La + 1) / 2 = h := ⟨_, rfl⟩
  have hhi : ((La : Int) + 1) / 2 = (h : Int) := by omega
  have hca : ¬ c = h := by omega
  rw [hh] at hcb hK
  have b1 : h ≤ Lb := by omega
  have b2 : h < La := by omega
  have b3 : 40 ≤ h := by omega
  have b4 : La - h ≤ h := by omega
  have b5 : Lb - h ≤ h := by omega
  have ha0 := fun w (hA : Nums .u64 w (some ⟨ga, oa, none⟩) (dig B64 m)) => low_half _ c m h w hA (by omega) (by omega) (by omega)
  have hb0 := fun w (hB : Nums .u64 w (some ⟨gb, ob, none⟩) (dig B64 n)) => low_half _ c' n h w hB (by omega) (by omega) (by omega)
  have ia0 := fun w (hA : Nums .u64 w (some ⟨ga, oa, none⟩) (dig B64 m)) => low_is _ c m h w hA (by omega) (by omega)
  have ib0 := fun w (hB : Nums .u64 w (some ⟨gb, ob, none⟩) (dig B64 n)) => low_is _ c' n h w hB (by omega) (by omega)
  have ia1 := fun w (hA : Nums .u64 w (some ⟨ga, oa, none⟩) (dig B64 m)) => high_is ga oa c m h w hA (by omega)
  have ib1 := fun w (hB : Nums .u64 w (some ⟨gb, ob, none⟩) (dig B64 n)) => high_is gb ob c' n h w hB (by omega)
  rw [← hLa] at ia1
  rw [← hLb] at ib1
  have lm0 := dig_len_mod b64_two m h
  have ln0 := dig_len_mod b64_two n h
  have lm1 := dig_len_div b64_two m h
  have ln1 := dig_len_div b64_two n h
  rw [← hLa] at lm1
  rw [← hLb] at ln1
  have em := Nat.mod_add_div m (B64 ^ h)
  have en := Nat.mod_add_div n (B64 ^ h)
  have hlt := Nat.mul_lt_mul_of_lt_of_lt (dig_len_lt b64_two (n := m)) (dig_len_lt b64_two (n := n))
  rw [← hLa, ← hLb, ← Nat.pow_add] at hlt
  generalize m % B64 ^ h = m0 at *
  generalize n % B64 ^ h = n0 at *
  generalize m / B64 ^ h = m1 at *
  generalize n / B64 ^ h = n1 at *
  have ls1 : (dig B64 (m0 + m1)).length ≤ h + 1 := wlen_add lm0 (by omega)
  have ls2 : (dig B64 (n0 + n1)).length ≤ h + 1 := wlen_add ln0 (by omega)
  have M1 : ∀ a b w, W64 w a m0 → W64 w b n0 → Calls Try.prog 111 #[a, b] w (SumPost w (m0 * n0)) := fun a b w h k => HM a b m0 n0 w h k (by omega) (by omega)
  have M2 : ∀ a b w, W64 w a m1 → W64 w b n1 → Calls Try.prog 111 #[a, b] w (SumPost w (m1 * n1)) := fun a b w h k => HM a b m1 n1 w h k (by omega) (by omega)
  have M3 : ∀ a b w, W64 w a (m0 + m1) → W64 w b (n0 + n1) → Calls Try.prog 111 #[a, b] w (SumPost w ((m0 + m1) * (n0 + n1))) := fun a b w h k => HM a b _ _ w h k (by omega) (by omega)
  have S1 : ∀ a b w, W64 w a m0 → W64 w b m1 → Calls Try.prog 82 #[a, b] w (SumPost w (m0 + m1)) := fun a b w h k => sum_any a b m0 m1 w h k (by omega) (by omega)
  have S2 : ∀ a b w, W64 w a n0 → W64 w b n1 → Calls Try.prog 82 #[a, b] w (SumPost w (n0 + n1)) := fun a b w h k => sum_any a b n0 n1 w h k (by omega) (by omega)
  have hmk := make64 (La + Lb) (by omega)
  push_cast at hmk
  have hbits : m0 * n0 < B64 ^ (2 * h) ∧ m1 * n1 < B64 ^ (La + Lb - 2 * h) ∧ (m0 + m1) * (n0 + n1) < B64 ^ (2 * h + 2) := by
    refine ⟨?_, ?_, ?_⟩
    · rw [show 2 * h = h + h by omega, Nat.pow_add]
      exact Nat.mul_lt_mul_of_lt_of_lt (lt_of_wlen lm0) (lt_of_wlen ln0)
    · rw [show La + Lb - 2 * h = (La - h) + (Lb - h) by omega, Nat.pow_add]
      exact Nat.mul_lt_mul_of_lt_of_lt (lt_of_wlen (by omega)) (lt_of_wlen (by omega))
    · rw [show 2 * h + 2 = (h + 1) + (h + 1) by omega, Nat.pow_add]
      exact Nat.mul_lt_mul_of_lt_of_lt (lt_of_wlen ls1) (lt_of_wlen ls2)
  have HA := Lib.hid hA
  have HB := Lib.hid hB
  have H0 := Lib.hid ha0
  have H1 := Lib.hid hb0
  have IA0 := Lib.hid ia0
  have IB0 := Lib.hid ib0
  have IA1 := Lib.hid ia1
  have IB1 := Lib.hid ib1
  have HLA := Lib.hid hLa
  have HLB := Lib.hid hLb
  have HH := Lib.hid hh
  have HM1 := Lib.hid M1
  have HM2 := Lib.hid M2
  have HM3 := Lib.hid M3
  have HS1 := Lib.hid S1
  have HS2 := Lib.hid S2
  have HEM := Lib.hid em
  have HEN := Lib.hid en
  have HLT := Lib.hid hlt
  have HBI := Lib.hid hbits
  have below0 : ∀ k, Below w.heap.size w (w.drewN k) := fun k => below_drewN (Below.refl _ _) k
  have HBE := Lib.hid below0
  clear ha0 hb0 ia0 ib0 ia1 ib1 hLa hLb hh M1 M2 M3 S1 S2 em en hlt hbits HM below0 hA hB lm1 ln1
  go_enter Try.func130, Try.ntmps130
  go_wp2
  go_quiet ((go_at_call 78; exact quiet_l (H0.out _ (HA.out.keep (HBE.out _)))))
  go_wp2
  go_quiet ((go_at_call 78; exact quiet_a (H1.out _ (HB.out.keep (HBE.out _)))))
  go_wp2_with (fail)
  refine (HM1.out _ _ _ (IA0.out _ (HA.out.keep (HBE.out _))) (IB0.out _ (HB.out.keep (HBE.out _)))).mono ?_
  rintro e w1 ⟨v1, rfl, hv1, hb1⟩
  have c1 : Below w.heap.size w w1 := (HBE.out _).trans (hb1.mono (HBE.out _).size)
  obtain ⟨A1, d1, rfl, hd1, k1⟩ := hv1.is
  clear hv1
  have ll1 : (dig B64 (m0 * n0)).length ≤ 2 * h := dig_len_le b64_two HBI.out.1
  obtain ⟨l1, hl1⟩ : ∃ l, (dig B64 (m0 * n0)).length = l := ⟨_, rfl⟩
  have HL1 := Lib.hid hl1
  rw [hl1] at hd1 ll1 ⊢
  clear hl1
  go_wp2_with (fail)
  refine (HM2.out _ _ _ (IA1.out _ (HA.out.keep c1)) (IB1.out _ (HB.out.keep c1))).mono ?_
  rintro e w2 ⟨v2, rfl, hv2, hb2⟩
  have c2 := below_at c1 (Nat.le_refl _) hb2
  have k1' := k1.keep hb2
  obtain ⟨A2, d2', rfl, hd2, k2⟩ := hv2.is
  clear hv2 k1
  have ll2 : (dig B64 (m1 * n1)).length ≤ La + Lb - 2 * h := dig_len_le b64_two HBI.out.2.1
  obtain ⟨l2, hl2⟩ : ∃ l, (dig B64 (m1 * n1)).length = l := ⟨_, rfl⟩
  have HL2 := Lib.hid hl2
  rw [hl2] at hd2 ll2 ⊢
  clear hl2
  go_wp2_with (fail)
  refine (HS1.out _ _ _ (IA0.out _ (HA.out.keep c2)) (IA1.out _ (HA.out.keep c2))).mono ?_
  rintro e w3 ⟨v3, rfl, hv3, hb3⟩
  have c3 := below_at c2 (Nat.le_refl _) hb3
  go_wp2_with (fail)
  refine (HS2.out _ _ _ (IB0.out _ (HB.out.keep c3)) (IB1.out _ (HB.out.keep c3))).mono ?_
  rintro e w4 ⟨v4, rfl, hv4, hb4⟩
  have c4 := below_at c3 (Nat.le_refl _) hb4
  go_wp2_with (fail)
  refine (HM3.out _ _ _ (hv3.is.keep hb4) hv4.is).mono ?_
  rintro e w5 ⟨v5, rfl, ⟨g5, c5, zs5, rfl, hc5, hcz5, hg5, hr5, hl5, ht5⟩, hb5⟩
  have c5' := below_at c4 (Nat.le_refl _) hb5
  clear hv3 hv4
  have hK2 := kara_mid m0 m1 n0 n1
  have hmid5 : RawAt w5 g5 zs5 (dig B64 ((m0 + m1) * (n0 + n1))).length ((m0 + m1) * (n0 + n1)) := ⟨hr5, hl5, by omega, by
    have : seg zs5 0 (dig B64 ((m0 + m1) * (n0 + n1))).length = zs5.take (dig B64 ((m0 + m1) * (n0 + n1))).length := by simp [seg]
    rw [this, ht5, val_dig b64_two]⟩
  have lmid : (dig B64 ((m0 + m1) * (n0 + n1))).length ≤ 2 * h + 2 := dig_len_le b64_two HBI.out.2.2
  have w2g : w2.heap.size ≤ g5 := Nat.le_trans hb3.size (Nat.le_trans hb4.size hg5)
  have d2 : Below w2.heap.size w2 w5 := (hb3.trans (hb4.mono hb3.size)).trans (hb5.mono (Nat.le_trans hb3.size hb4.size))
  have HK2 := Lib.hid hK2
  have HT5 := Lib.hid ht5
  clear hK2 ht5 hr5
  generalize (dig B64 ((m0 + m1) * (n0 + n1))).length = lm at *
  subst hcz5
  go_wp2_with (fail)
  refine (subFrom_raw g5 lm _ (m0 * n0) _ zs5 _ w2 _ hmid5 ⟨_, _, by rw [HL1.out], by rw [HL1.out]; exact hd1, k1'⟩ d2 w2g HK2.out.2.1 (by omega)).mono ?_
  rintro e w6 ⟨zs6, rfl, hmid6, hlen6, hgr6⟩
  have d3 : Below w2.heap.size w2 w6 := d2.grown hgr6 d2.size (fun k hk => by injection hk with hk; omega)
  go_wp2_with (fail)
  refine (subFrom_raw g5 lm _ (m1 * n1) _ zs6 _ w2 _ hmid6 ⟨_, _, by rw [HL2.out], by rw [HL2.out]; exact hd2, k2⟩ d3 w2g HK2.out.2.2 (by omega)).mono ?_
  rintro e w7 ⟨zs7, rfl, hmid7, hlen7, hgr7⟩
  have d4 : Below w2.heap.size w2 w7 := d3.grown hgr7 d3.size (fun k hk => by injection hk with hk; omega)
  rw [HK2.out.1] at hmid7
  have k1z := k1'.keep d4
  have k2z := k2.keep d4
  have hr0 := Row.made w7 .u64 (La + Lb) 24
  have hbA : Below w7.heap.size w7 (w7.alloc (.cells (madeCells #[.int .u64 0] (La + Lb)) 24)) := (Below.refl _ _).alloc (Nat.le_refl _) _
  have q1 := k1z.keep hbA
  have q2 := k2z.keep hbA
  have HR0 := Lib.hid hr0
  have hn1 : (lay (List.replicate (La + Lb) 0) 0 (dig B64 (m0 * n0))).length = La + Lb := by rw [lay_len (by simp only [List.length_replicate, HL1.out]; omega)]; simp
  have HN1 := Lib.hid hn1
  clear hr0 hn1
  go_wp2_with (first
    | (refine wpList_copy_row rfl (.tmp 57) (.tmp 58) rfl _ _ _ _ _ _ rfl rfl _ 0 _ _ HR0.out q1 HL1.out.symm (by omega) (fun _ => rfl) (by simp only [List.length_replicate]; omega) ?_
       intro w8 hr8 hg8
       have hb8 : Below w7.heap.size w7 w8 := hbA.grown hg8 hbA.size (by simp)
       have q3 := q2.grown (nums_ne k2z (Nat.le_refl _)) hg8)
    | (refine wpList_copy_row rfl (.tmp 63) (.tmp 64) rfl _ _ _ _ _ _ rfl rfl _ (2 * h) _ _ (by assumption) (by assumption) HL2.out.symm (by omega) (fun _ => rfl) (by rw [HN1.out]; omega) ?_
       intro w9 hr9 hg9
       have hb9 : Below w7.heap.size w7 w9 := hb8.grown hg9 hb8.size (by simp)))
  have ev : (h : Int) ≤ (La : Int) + (Lb : Int) := by omega
  have nv : ¬ La + Lb = h := by omega
  have q5 : Row .u64 24 w9.drew g5 zs7 := (hmid7.row.below hb9 hmid7.row.lt).drew
  have q6 := q5.nums0 lm
  have t1 := trim_any (some ⟨g5, 0, none⟩) zs5.length lm (zs7.take lm) w9.drew q6 (hmid7.low.take lm) (by rw [List.length_take, Nat.min_eq_left hmid7.le]) (by have := hmid7.le; omega) (by omega)
  have t2 : val B64 (zs7.take lm) = m0 * n1 + m1 * n0 := by have := hmid7.eq; simpa [seg] using this
  rw [t2] at t1
  have hmn : m * n = m0 * n0 + B64 ^ h * B64 ^ h * (m1 * n1) + B64 ^ h * (m0 * n1 + m1 * n0) := by
    have := kara_sum m0 m1 n0 n1 (B64 ^ h)
    rwa [HEM.out, HEN.out] at this
  have hml : m0 * n1 + m1 * n0 < B64 ^ (La + Lb - h) := mid_lt hmn (by rw [show h + (La + Lb - h) = La + Lb by omega]; exact HLT.out)
  have hl3 : (dig B64 (m0 * n1 + m1 * n0)).length ≤ La + Lb - h := dig_len_le b64_two hml
  have q7 := q6.take (dig B64 (m0 * n1 + m1 * n0)).length
  have q8 := trim_take b64_two (hmid7.low.take lm)
  rw [t2] at q8
  rw [q8] at q7
  obtain ⟨Z, hZ⟩ : ∃ Z, lay (lay (List.replicate (La + Lb) 0) 0 (dig B64 (m0 * n0))) (2 * h) (dig B64 (m1 * n1)) = Z := ⟨_, rfl⟩
  have zl : Z.length = La + Lb := by rw [← hZ, lay_len (by rw [HN1.out, HL2.out]; omega), HN1.out]
  have zlow : Low B64 Z := by rw [← hZ]; exact lay_low (lay_low (Low.replicate b64_pos _) (dig_low64 _)) (dig_low64 _)
  have zv : val B64 Z = m0 * n0 + B64 ^ h * B64 ^ h * (m1 * n1) := by
    rw [← hZ, val_two (by rw [HL1.out]; omega) (by rw [HL2.out]; omega), val_dig b64_two, val_dig b64_two, show 2 * h = h + h by omega, Nat.pow_add]
  have zv2 : val B64 Z + B64 ^ h * val B64 (dig B64 (m0 * n1 + m1 * n0)) = m * n := by rw [zv, hmn, val_dig b64_two]
  have zlt : m * n < B64 ^ Z.length := by rw [zl]; exact HLT.out
  rw [hZ] at hr9
  have hr10 := hr9.drew
  have g2 : w.heap.size ≤ g5 := Nat.le_trans c2.size w2g
  have c6 : Below w.heap.size w w7 := (c5'.grown hgr6 c5'.size (fun k hk => by injection hk with hk; omega)) |>.grown hgr7 (by have := c5'.size; have := hgr6.size; omega) (fun k hk => by injection hk with hk; omega)
  have c9 : Below w.heap.size w w9 := below_at c6 (Nat.le_refl _) hb9
  have c10 : Below w.heap.size w w9.drew := c9.drew
  have g7 : w.heap.size ≤ w7.heap.size := c6.size
  have g57 : g5 < w7.heap.size := hmid7.row.lt
  have TT := Lib.hid t1
  have T2 := Lib.hid t2
  have ZL := Lib.hid zl
  have ZV := Lib.hid zv2
  clear t1 t2 hmn q8 hZ zl zv zv2 hr9
  go_still_tail 5, (by kernel_rfl)
  still_call (TT.out.mono fun _ _ ⟨he, hm⟩ => ⟨he, hm.symm⟩)
  refine wpStill_nil ?_
  change wpList _ _ _ _ _ w9.drew
  generalize w9.drew = w10 at *
  go_wp2_with (first
    | (go_at_call 106
       refine (addTo_any w7.heap.size h (La + Lb - h) (La + Lb - h) _ _ Z _ _ _ hr10 zlow (by rw [ZL.out]; omega) q7 (dig_low64 _) (fun _ a ha => by injection ha with ha; subst ha; exact Nat.ne_of_lt g57) rfl hl3 (by omega)).mono ?_
       rintro e w11 ⟨zs', cy, rfl, hst, hr11, hg11⟩
       have hb11 : Below w.heap.size w w11 := c10.grown hg11 c10.size (fun k hk => by injection hk with hk; omega)
       have hl11 := hst.len.trans ZL.out
       have hn11 : Nums .u64 w11 (some ⟨w7.heap.size, 0, none⟩) zs' := by have := hr11.nums0 zs'.length; rwa [List.take_length] at this
       have HL11 := Lib.hid hl11
       clear hl11)
    | (go_at_call 78
       refine (trim_any _ (La + Lb) (La + Lb) zs' _ (by assumption) hst.low HL11.out.symm (Nat.le_refl _) (by omega)).mono ?_
       rintro e w12 ⟨rfl, rfl⟩))
  go_ret
  have hv := hst.whole (by rw [ZL.out]; omega) hl3 ZV.out zlt
  rw [← hv]
  refine ⟨_, rfl, ?_, hb11⟩
  have := own_of_trim b64_two hr11 hst.low g7
  rw [HL11.out] at this
  exact this
end Go.Proofs.Ytaegkhdkhgemmaa
