/- Play of acts that are keys and ticks; one; the reference's Same. -/
import Derived.Test.YtpaemlkikkcjiaaWNewM
import Derived.Laws.StructEq
import Derived.Laws.Rows
namespace Go.Proofs.Ytpaemlkikkcjiaa
open Go.RowKit

theorem und84 : (Try.prog.underlying 84).map (fun d => match d with | .struct _ | .array _ _ => true | _ => false) = some true := by kernel_rfl
theorem size84 : (Try.prog.info? 84).map (·.size) = some 4 := by kernel_rfl
theorem one_any (w : World) : Calls Try.prog 60 #[] w fun e w' => e = .returned (.agg #[.int .i64 15, .int .i64 12, .int .i64 5, .bool true]) ∧ Below w.heap.size w w' := by
  have hq : Blk 84 (w.alloc (.cells #[.int .i64 15, .int .i64 12, .int .i64 5, .bool true] 84)) w.heap.size [.int .i64 15, .int .i64 12, .int .i64 5, .bool true] := Blk.new w 84 [_, _, _, _]
  have hb := below_new w (.cells #[.int .i64 15, .int .i64 12, .int .i64 5, .bool true] 84)
  go_enter Try.func60, Try.ntmps60
  go_wp2
  obtain ⟨d', hd, hm⟩ := Option.map_eq_some_iff.1 und84
  refine bodyPost_ret (results_cell_row rfl _ _ _ _ _ _ d' rfl hq hd ?_ size84) rfl ⟨rfl, hb⟩
  cases d' <;> first | rfl | exact absurd hm (by simp)

/-- Are two lists of events the same. -/
def evEq (x y : Mo) : Bool := x.tk == y.tk && (x.kind == y.kind && (x.key == y.key && x.reg == y.reg))
theorem evEq_iff (x y : Mo) : evEq x y = true ↔ evC x = evC y := by
  unfold evEq evC
  simp
def evK (x : Mo) : Int × Int × Int × Int := (x.tk, x.kind, x.key, x.reg)
def evI (l : List Mo) : List (Int × Int × Int × Int) := l.map evK
def evsEq (a b : List Mo) : Bool := decide (evI a = evI b)
theorem evI_iff (a b : List Mo) : evI a = evI b ↔ evL a = evL b := by
  constructor
  · intro h
    have key : ∀ l : List Mo, evL l = (evI l).flatMap (fun k => [Value.int .i64 k.1, .int .i64 k.2.1, .int .i64 k.2.2.1, .int .i64 k.2.2.2]) := fun l => by
      unfold evL evI
      rw [List.flatMap_map]
      rfl
    rw [key, key, h]
  · intro h
    induction a generalizing b with
    | nil => cases b with
      | nil => rfl
      | cons y b => have := congrArg List.length h; rw [evL_len, evL_len] at this; simp at this
    | cons x a ih => cases b with
      | nil => have := congrArg List.length h; rw [evL_len, evL_len] at this; simp at this
      | cons y b =>
        have h' : evC x ++ evL a = evC y ++ evL b := h
        obtain ⟨h1, h2⟩ := List.append_inj h' rfl
        have h3 := ih b h2
        have h4 : evK x = evK y := by
          unfold evC at h1
          simp only [List.cons.injEq, Value.int.injEq, true_and, and_true] at h1
          unfold evK
          rw [h1.1, h1.2.1, h1.2.2.1, h1.2.2.2]
        show evK x :: evI a = evK y :: evI b
        rw [h3, h4]
theorem evs_len {a b : List Mo} (h : evL a = evL b) : a.length = b.length := by
  have := congrArg List.length h
  rw [evL_len, evL_len] at this
  omega
theorem evs_of {a b : List Mo} (hl : a.length = b.length) (h : ∀ (i : Nat) (x y : Mo), a[i]? = some x → b[i]? = some y → evEq x y = true) : evL a = evL b := by
  induction a generalizing b with
  | nil => cases b with
    | nil => rfl
    | cons y b => simp at hl
  | cons x a ih =>
    cases b with
    | nil => simp at hl
    | cons y b =>
      have h0 := h 0 x y rfl rfl
      have h1 := ih (b := b) (by simpa using hl) (fun i x' y' hx hy => h (i + 1) x' y' (by simpa using hx) (by simpa using hy))
      show evC x ++ evL a = evC y ++ evL b
      rw [(evEq_iff x y).1 h0, h1]
theorem evs_ne {a b : List Mo} {i : Nat} {x y : Mo} (hx : a[i]? = some x) (hy : b[i]? = some y) (h : evEq x y = false) : evL a ≠ evL b := by
  intro e
  have hat : ∀ (l : List Mo) (x : Mo), l[i]? = some x → ∀ j, j < 4 → (evL l)[i * 4 + j]? = (evC x)[j]? := fun l x hx j hj => flat_at evC_len hx hj
  have h2 : evC x = evC y := by
    apply List.ext_getElem?
    intro j
    by_cases hj : j < 4
    · rw [← hat a x hx j hj, ← hat b y hy j hj, e]
    · rw [List.getElem?_eq_none (by rw [evC_len]; omega), List.getElem?_eq_none (by rw [evC_len]; omega)]
  rw [(evEq_iff x y).2 h2] at h
  cases h
theorem ev_cells {w : World} {A : Option Addr} {l : List Mo} (h : Vals w A (evL l)) {i : Nat} {x : Mo} (hx : l[i]? = some x) : ∃ g off, A = some ⟨g, off, none⟩ ∧ g < w.heap.size ∧
    w.cell? ⟨g, off + i * 4, none⟩ = some (.int .i64 x.tk) ∧ w.cell? ⟨g, off + i * 4 + 1, none⟩ = some (.int .i64 x.kind) ∧ w.cell? ⟨g, off + i * 4 + 2, none⟩ = some (.int .i64 x.key) ∧ w.cell? ⟨g, off + i * 4 + 3, none⟩ = some (.int .i64 x.reg) := by
  have hlt : i < l.length := (List.getElem?_eq_some_iff.1 hx).1
  obtain ⟨g, off, e, hg, hc⟩ := h (by rw [evL_len]; omega)
  have hat : ∀ j, j < 4 → (evL l)[i * 4 + j]? = (evC x)[j]? := fun j hj => flat_at evC_len hx hj
  refine ⟨g, off, e, hg, hc _ _ (hat 0 (by omega)), ?_, ?_, ?_⟩
  · rw [Nat.add_assoc]; exact hc _ _ (hat 1 (by omega))
  · rw [Nat.add_assoc]; exact hc _ _ (hat 2 (by omega))
  · rw [Nat.add_assoc]; exact hc _ _ (hat 3 (by omega))
set_option maxHeartbeats 2000000 in
set_option maxRecDepth 100000 in
theorem sameEv_any (A A' : Option Addr) (c c' L L' : Nat) (a b : List Mo) (w : World) (hA : Vals w A (evL a)) (hA' : Vals w A' (evL b)) (hL : L = a.length) (hL' : L' = b.length) (hLs : L ≤ 100000000) :
    Calls Try.prog 43 #[.slice A L c, .slice A' L' c'] w fun e w' => e = .returned (.bool (evsEq a b)) ∧ Below w.heap.size w w' := by
  unfold evsEq
  by_cases hne : L = L'
  · subst hne
    have HA := Lib.hid hA
    have HA' := Lib.hid hA'
    have HL := Lib.hid hL
    have HL' := Lib.hid hL'
    clear hA hA' hL hL'
    have hd : ((L : Int) != (L : Int)) = false := by simp
    go_enter Try.func43, Try.ntmps43
    go_wp2_with (fail)
    go_loopw [5] (fun t wr => ∃ i z : Nat, i ≤ L ∧ t = .int .i64 (i : Int) ∧ Hid (∀ j, j < i → ∀ x y, a[j]? = some x → b[j]? = some y → evEq x y = true) ∧ wr = w.drewN z) (fun t _ => L - (intOf t).toNat)
    case atStart => exact ⟨0, 0, Nat.zero_le _, rfl, Lib.hid (fun j hj => by omega), rfl⟩
    case round =>
      obtain ⟨i, z, hi, rfl, HE, rfl⟩ := hrel
      by_cases hlt : i < L
      · obtain ⟨x, hx⟩ : ∃ x, a[i]? = some x := ⟨a[i]'(by have := HL.out; omega), List.getElem?_eq_getElem _⟩
        obtain ⟨y, hy⟩ : ∃ y, b[i]? = some y := ⟨b[i]'(by have := HL'.out; omega), List.getElem?_eq_getElem _⟩
        obtain ⟨g, off, rfl, hg, m0, m1, m2, m3⟩ := ev_cells HA.out hx
        obtain ⟨g2, off2, rfl, hg2, k0, k1, k2, k3⟩ := ev_cells HA'.out hy
        have HX := Lib.hid hx
        have HY := Lib.hid hy
        clear hx hy
        have hlt2 : (i : Int) < (L : Int) := by omega
        cases hev : evEq x y with
        | true =>
          have hc := (evEq_iff x y).1 hev
          have HN : Hid (∀ j, j < i + 1 → ∀ x y, a[j]? = some x → b[j]? = some y → evEq x y = true) := Lib.hid (fun j hj x' y' hx' hy' => by
            by_cases e : j = i
            · subst e
              rw [HX.out] at hx'; rw [HY.out] at hy'
              injection hx' with hx'; injection hy' with hy'
              rw [← hx', ← hy']; exact hev
            · exact HE.out j (by omega) x' y' hx' hy')
          unfold evC at hc
          simp only [List.cons.injEq, Value.int.injEq, true_and, and_true] at hc
          obtain ⟨h1, h2, h3, h4⟩ := hc
          rw [← h1] at k0; rw [← h2] at k1; rw [← h3] at k2; rw [← h4] at k3
          clear h1 h2 h3 h4 hev
          go_wp2_with (fail)
          go_quiet (fail)
          go_wp2_with (fail)
          go_roundw
          case rel => exact ⟨i + 1, _, by omega, by go_num, HN, rfl⟩
          case measure => simp [intOf]; omega
        | false =>
          have he : decide (evI a = evI b) = false := by simp only [decide_eq_false_iff_not]; intro e; exact evs_ne HX.out HY.out hev ((evI_iff a b).1 e)
          have HE2 := Lib.hid he
          have hev2 : ¬ (x.tk = y.tk ∧ x.kind = y.kind ∧ x.key = y.key ∧ x.reg = y.reg) := by
            unfold evEq at hev
            simpa using hev
          have HV := Lib.hid hev2
          clear he hev hev2
          obtain ⟨xt, xk, xy, xr, _, _⟩ := x
          obtain ⟨yt, yk, yy, yr, _, _⟩ := y
          simp only at m0 m1 m2 m3 k0 k1 k2 k3 HV
          by_cases t0 : xt = yt
          · by_cases t1 : xk = yk
            · by_cases t2 : xy = yy
              · have t3 : (xr == yr) = false := by have := HV.out; simp; intro e; exact this ⟨t0, t1, t2, e⟩
                have t0' : (xt == yt) = true := by simpa using t0
                have t1' : (xk == yk) = true := by simpa using t1
                have t2' : (xy == yy) = true := by simpa using t2
                clear t0 t1 t2 HV
                go_wp2_with (fail)
                go_quiet (fail)
                go_wp2
                go_ret
                exact ⟨by rw [HE2.out]; rfl, by first | exact below_drewN (Below.refl _ _) _ | exact below_drewN (below_drewN (Below.refl _ _) _) _⟩
              · have t0' : (xt == yt) = true := by simpa using t0
                have t1' : (xk == yk) = true := by simpa using t1
                have t2' : (xy == yy) = false := by simpa using t2
                clear t0 t1 t2 HV
                go_wp2_with (fail)
                go_quiet (fail)
                go_wp2
                go_ret
                exact ⟨by rw [HE2.out]; rfl, by first | exact below_drewN (Below.refl _ _) _ | exact below_drewN (below_drewN (Below.refl _ _) _) _⟩
            · have t0' : (xt == yt) = true := by simpa using t0
              have t1' : (xk == yk) = false := by simpa using t1
              clear t0 t1 HV
              go_wp2_with (fail)
              go_quiet (fail)
              go_wp2
              go_ret
              exact ⟨by rw [HE2.out]; rfl, by first | exact below_drewN (Below.refl _ _) _ | exact below_drewN (below_drewN (Below.refl _ _) _) _⟩
          · have t0' : (xt == yt) = false := by simpa using t0
            clear t0 HV
            go_wp2_with (fail)
            go_quiet (fail)
            go_wp2
            go_ret
            exact ⟨by rw [HE2.out]; rfl, by first | exact below_drewN (Below.refl _ _) _ | exact below_drewN (below_drewN (Below.refl _ _) _) _⟩
      · obtain rfl : i = L := by omega
        have he : decide (evI a = evI b) = true := by
          simp only [decide_eq_true_eq]
          refine (evI_iff a b).2 (evs_of (by have := HL.out; have := HL'.out; omega) fun j x y hx hy => HE.out j ?_ x y hx hy)
          have := (List.getElem?_eq_some_iff.1 hx).1
          have := HL.out; omega
        have HE2 := Lib.hid he
        clear he
        go_wp2
        go_ret
        exact ⟨by rw [HE2.out]; rfl, below_drewN (Below.refl _ _) _⟩
  · have hd : ((L : Int) != (L' : Int)) = true := by simp; omega
    have he : decide (evI a = evI b) = false := by
      simp only [decide_eq_false_iff_not]
      intro e
      have := evs_len ((evI_iff a b).1 e)
      omega
    rw [he]
    clear hA hA' hL hL' he
    go_enter Try.func43, Try.ntmps43
    go_wp2
    go_ret
    exact ⟨rfl, Below.refl _ _⟩
end Go.Proofs.Ytpaemlkikkcjiaa
