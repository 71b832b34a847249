/- inOrder: the moments sorted, their events. The sort of at most one moment. -/
import Derived.Test.YtpaemlkikkcjiaaTkS
namespace Go.Proofs.Ytpaemlkikkcjiaa
open Go.RowKit

/-- slices.SortStableFunc of at most K moments. -/
def StabK (K : Nat) : Prop := ∀ (B : Nat) (w : World) (v : Value) (ms : List Mo), ms.length ≤ K → w.ownsRow B 137 6 v ms.length (moL ms) → B ≤ w.heap.size →
  (∀ x, x ∈ ms → 0 ≤ x.num ∧ x.num ≤ 100000 ∧ 0 ≤ x.den ∧ x.den ≤ 100000) →
  Calls Try.prog 94 #[v, .func (.func 95) #[] #[]] w fun e w' => (∃ x, e = .returned x) ∧ w'.ownsRow B 137 6 v ms.length (moL (srtM ms)) ∧ Chg v.ownBlock.toList w w'

theorem own_shape {B T k n : Nat} {w : World} {v : Value} {vs : List Value} (h : w.ownsRow B T k v n vs) : ∃ A c, v = .slice A n c ∧ n ≤ c ∧ Vals w A vs ∧ (A = none → n = 0 ∧ c = 0) ∧ (∀ ad, A = some ad → ad.spot = none ∧ ad.off = 0 ∧ B ≤ ad.block) := by
  rcases h with ⟨h0, ⟨rfl, rfl⟩ | ⟨g, cap, cur, rfl, h1, h2, h3, h4, h5, h6⟩⟩
  · have : vs = [] := List.eq_nil_of_length_eq_zero (by simpa using h0)
    subst this
    exact ⟨none, 0, rfl, Nat.le_refl _, Vals.nil, fun _ => ⟨rfl, rfl⟩, fun ad e => by cases e⟩
  · refine ⟨_, cap, rfl, h3, ?_, ?_, ?_⟩
    rotate_left
    · intro e; cases e
    · intro ad e; injection e with e; subst e; exact ⟨rfl, rfl, h1⟩
    have hO := own_hd ⟨h0, .inr ⟨g, cap, cur, rfl, h1, h2, h3, h4, h5, h6⟩⟩ (by intro e; injection e with e; cases e)
    obtain ⟨g', cap', e, _, _, _, _, hh⟩ := hO
    injection e with e1 e2 e3
    injection e1 with e1
    injection e1 with e1
    subst e1
    exact hh.vals

theorem ins_one (n : Nat) (hn : n ≤ 1) (A : Option Addr) (c : Nat) (f : Value) (w : World) : Calls Try.prog 99 #[.slice A n c, .int .i64 0, .int .i64 (n : Int), f] w fun e w' => (∃ x, e = .returned x) ∧ w' = w := by
  have h1 : ¬ (1 : Int) < (n : Int) := by omega
  have h2 : ¬ 1 < n := by omega
  go_enter Try.func99, Try.ntmps99
  go_wp2_with (fail)
  go_loopw [8, 9] (fun t _ wr => t = .int .i64 1 ∧ wr = w) (fun _ _ _ => 0)
  case atStart => exact ⟨rfl, rfl⟩
  case round =>
    obtain ⟨rfl, rfl⟩ := hrel
    go_wp2_with (fail)
    refine bodyPost_end (results_none rfl _ _ _) rfl ?_
    exact ⟨⟨_, rfl⟩, rfl⟩
theorem stab_one (n : Nat) (hn : n ≤ 1) (A : Option Addr) (c : Nat) (f : Value) (w : World) : Calls Try.prog 97 #[.slice A n c, .int .i64 (n : Int), f] w fun e w' => (∃ x, e = .returned x) ∧ w' = w := by
  have h1 : ¬ (20 : Int) ≤ (n : Int) := by omega
  have h2 : ¬ 20 ≤ n := by omega
  have h3 : ¬ (20 : Int) < (n : Int) := by omega
  have h4 : ¬ 20 < n := by omega
  have H := Lib.hid (ins_one n hn A c f)
  go_enter Try.func97, Try.ntmps97
  go_wp2_with (fail)
  go_loopw [7, 8] (fun a b wr => a = .int .i64 0 ∧ b = .int .i64 20 ∧ wr = w) (fun _ _ _ => 0)
  case atStart => exact ⟨rfl, rfl, rfl⟩
  case round =>
    obtain ⟨rfl, rfl, rfl⟩ := hrel
    go_wp2_with (go_at_call 99; refine (H.out _).mono ?_; rintro e w1 ⟨⟨x, rfl⟩, rfl⟩)
    go_loopw [6, 7, 8, 9] (fun a _ _ _ ww => a = .int .i64 20 ∧ ww = w1) (fun _ _ _ _ _ => 0)
    case atStart => exact ⟨rfl, rfl⟩
    case round =>
      obtain ⟨rfl, rfl⟩ := hrel
      go_wp2_with (fail)
      refine bodyPost_end (results_none rfl _ _ _) rfl ?_
      exact ⟨⟨_, rfl⟩, rfl⟩
set_option maxHeartbeats 1000000 in
set_option maxRecDepth 100000 in
theorem stabK_one : StabK 1 := by
  intro B w v ms hn ho hB _
  obtain ⟨A, c, rfl, _⟩ := own_shape ho
  have hs : srtM ms = ms := by
    match ms, hn with
    | [], _ => rfl
    | [x], _ => rfl
  rw [hs]
  have H := Lib.hid (stab_one ms.length hn A c (.func (.func 95) #[] #[]))
  have HO := Lib.hid ho
  clear ho hs
  go_enter Try.func94, Try.ntmps94
  go_wp2_with (go_at_call 97; (with_reducible refine (H.out _).mono ?_); rintro e w1 ⟨⟨x, rfl⟩, rfl⟩)
  refine bodyPost_end (results_none rfl _ _ _) rfl ?_
  exact ⟨⟨_, rfl⟩, HO.out, Chg.refl _ _⟩

theorem blk_set4 {T : TypeId} {w : World} {g n k : Nat} {f : Nat → List Value} (hf : ∀ x, (f x).length = 4) (h : Blk T w g ((List.range n).flatMap f)) (hk : k < n) (a b c d : Value) :
    Blk T ((((w.setCell ⟨g, k * 4, none⟩ a).setCell ⟨g, k * 4 + 1, none⟩ b).setCell ⟨g, k * 4 + 2, none⟩ c).setCell ⟨g, k * 4 + 3, none⟩ d) g ((List.range n).flatMap (upd f k [a, b, c, d])) := by
  have hl : ∀ (f : Nat → List Value) (l : List Value), (∀ x, (f x).length = 4) → l.length = 4 → ∀ x, (upd f k l x).length = 4 := fun f l h1 h2 x => by simp only [upd]; split; exact h2; exact h1 x
  have key : ∀ (f : Nat → List Value), (∀ x, (f x).length = 4) → ∀ (W : World), Blk T W g ((List.range n).flatMap f) → ∀ (j : Nat) (v : Value), j < 4 → Blk T (W.setCell ⟨g, k * 4 + j, none⟩ v) g ((List.range n).flatMap (upd f k ((f k).set j v))) := by
    intro f hf W hb j v hj
    have := hb.set (k * 4 + j) v
    rwa [flat_set (f := f) (f' := upd f k ((f k).set j v)) (c := 4) (by omega) hf (hl _ _ hf (by simp [hf])) hk hj (upd_at _ _ _) (fun x hx => upd_ne hx)] at this
  have h1 := key f hf w h 0 a (by omega)
  have f1 := hl f ((f k).set 0 a) hf (by simp [hf])
  have h2 := key _ f1 _ h1 1 b (by omega)
  have f2 := hl _ (((upd f k ((f k).set 0 a)) k).set 1 b) f1 (by simp [f1])
  have h3 := key _ f2 _ h2 2 c (by omega)
  have f3 := hl _ (((upd (upd f k ((f k).set 0 a)) k (((upd f k ((f k).set 0 a)) k).set 1 b)) k).set 2 c) f2 (by simp [f2])
  have h4 := key _ f3 _ h3 3 d (by omega)
  have e : upd (upd (upd (upd f k ((f k).set 0 a)) k (((upd f k ((f k).set 0 a)) k).set 1 b)) k (((upd (upd f k ((f k).set 0 a)) k (((upd f k ((f k).set 0 a)) k).set 1 b)) k).set 2 c)) k
      (((upd (upd (upd f k ((f k).set 0 a)) k (((upd f k ((f k).set 0 a)) k).set 1 b)) k (((upd (upd f k ((f k).set 0 a)) k (((upd f k ((f k).set 0 a)) k).set 1 b)) k).set 2 c)) k).set 3 d) = upd f k [a, b, c, d] := by
    funext x
    simp only [upd]
    by_cases hx : x = k
    · simp only [hx, if_true]
      have h5 := hf k
      match f k, h5 with
      | [_, _, _, _], _ => rfl
    · simp [hx]
  rw [e] at h4
  exact h4
theorem range_flat {α : Type} (f : α → List Value) (l : List α) (d : α) : (List.range l.length).flatMap (fun j => f (l.getD j d)) = l.flatMap f := by
  have : l = (List.range l.length).map (fun j => l.getD j d) := by
    apply List.ext_getElem?
    intro i
    by_cases h : i < l.length
    · simp [h]
    · rw [List.getElem?_eq_none (by omega), List.getElem?_eq_none (by simp; omega)]
  conv => rhs; rw [this]
  rw [List.flatMap_map]
theorem flat_zero (n : Nat) : (List.range n).flatMap (fun _ => [Value.int .i64 0, .int .i64 0, .int .i64 0, .int .i64 0]) = List.replicate (n * 4) (Value.int .i64 0) := by
  induction n with
  | zero => rfl
  | succ n ih => rw [List.range_succ, List.flatMap_append, ih, Nat.succ_mul, ← List.replicate_append_replicate]; rfl
def mo0 : Mo := ⟨0, 0, 0, 0, 0, 0⟩
theorem moL_at {l : List Mo} {i j : Nat} {x : Mo} (h : l[i]? = some x) (hj : j < 6) : (moL l)[i * 6 + j]? = (moC x)[j]? := flat_at moC_len h hj
theorem insM_len (x : Mo) (l : List Mo) : (insM x l).length = l.length + 1 := by
  induction l with
  | nil => rfl
  | cons y l ih => simp only [insM]; split <;> simp [ih]
theorem srtM_snoc (l : List Mo) (x : Mo) : srtM (l ++ [x]) = insM x (srtM l) := by simp [srtM]
theorem snoc_ind {α : Type} {P : List α → Prop} (h0 : P []) (h1 : ∀ l x, P l → P (l ++ [x])) : ∀ l, P l := by
  intro l
  have key : ∀ n (l : List α), l.length = n → P l := by
    intro n
    induction n with
    | zero => intro l hl; rw [List.eq_nil_of_length_eq_zero hl]; exact h0
    | succ n ih =>
      intro l hl
      have hne : l ≠ [] := by intro e; subst e; simp at hl
      rw [← List.dropLast_concat_getLast hne]
      exact h1 _ _ (ih _ (by simp [hl]))
  exact key _ l rfl
theorem srtM_len (l : List Mo) : (srtM l).length = l.length := by
  refine snoc_ind (P := fun l => (srtM l).length = l.length) rfl (fun l x ih => ?_) l
  rw [srtM_snoc, insM_len, ih]; simp

theorem makeE (n : Nat) (h : n ≤ 100000) (w : World) : (Instr.makeSlice 55 (.int .i64 (n : Int)) (.int .i64 (n : Int))).run Try.prog w = .ok (.slice (some ⟨w.heap.size, 0, none⟩) n n) (w.alloc (.cells (Array.replicate (n * 4) (.int .i64 0)) 67)) :=
  run_make_same 55 67 zEv (.int .i64 0) 4 32 Try.underlying55 infoEv rfl (by omega) n (n * 4) rfl (by omega) (by omega) w

set_option maxHeartbeats 4000000 in
set_option maxRecDepth 100000 in
theorem order_of (K : Nat) (hK : K ≤ 100000) (hS : StabK K) : OrderK K := by
  intro B w v ms hn ho hB hr
  have hst := hS B w v ms hn ho hB hr
  obtain ⟨A, c, rfl, hc, _, hA0, _⟩ := own_shape ho
  have hlen := srtM_len ms
  obtain ⟨l, hl⟩ : ∃ l, l = srtM ms := ⟨_, rfl⟩
  obtain ⟨n, hnn⟩ : ∃ n, n = ms.length := ⟨_, rfl⟩
  rw [← hl] at hst hlen ⊢
  rw [← hnn] at hst hlen hn hc ho ⊢
  have hmk := fun W => makeE n (by omega) W
  have HS := Lib.hid hst
  have HL := Lib.hid hlen
  have HN := Lib.hid hn
  clear hst hlen hnn ho hr hA0 hl
  go_enter Try.func91, Try.ntmps91
  go_wp2_with (go_at_call 94; refine (HS.out).mono ?_; rintro e w1 ⟨⟨x, rfl⟩, ho1, hc1⟩)
  obtain ⟨A', c', e1, _, hv1, _⟩ := own_shape ho1
  injection e1 with e1 _ e2
  subst e1 e2
  obtain ⟨g, hg⟩ : ∃ g, g = w1.heap.size := ⟨_, rfl⟩
  have hb0 : Blk 67 (w1.alloc (.cells (Array.replicate (n * 4) (.int .i64 0)) 67)) g ((List.range n).flatMap (fun j => if j < 0 then evC (l.getD j mo0) else [.int .i64 0, .int .i64 0, .int .i64 0, .int .i64 0])) := by
    have h1 := Blk.new w1 67 (List.replicate (n * 4) (Value.int .i64 0))
    have h2 : (List.range n).flatMap (fun j => if j < 0 then evC (l.getD j mo0) else [Value.int .i64 0, .int .i64 0, .int .i64 0, .int .i64 0]) = List.replicate (n * 4) (Value.int .i64 0) := by
      simp only [Nat.not_lt_zero, if_false]
      exact flat_zero n
    rw [h2, hg]
    simpa using h1
  have hbl0 := below_new w1 (.cells (Array.replicate (n * 4) (.int .i64 0)) 67)
  have HV := Lib.hid hv1
  have HG := Lib.hid hg
  have HC := Lib.hid hc1
  have HB0 := Lib.hid hb0
  rw [← hg]
  clear hv1 hb0 hc1 ho1 hg
  generalize w1.alloc (.cells (Array.replicate (n * 4) (.int .i64 0)) 67) = w2 at *
  go_loopw [4, 5, 13] (fun _ _ t wr => ∃ i : Nat, i ≤ n ∧ t = .int .i64 (i : Int) ∧
    Blk 67 wr g ((List.range n).flatMap (fun j => if j < i then evC (l.getD j mo0) else [.int .i64 0, .int .i64 0, .int .i64 0, .int .i64 0])) ∧ Below w1.heap.size w1 wr) (fun _ _ t _ => n - (intOf t).toNat)
  case atStart => exact ⟨0, Nat.zero_le _, rfl, HB0.out, hbl0⟩
  case round =>
    clear HB0 hbl0
    obtain ⟨i, hi, rfl, hB0, hb⟩ := hrel
    by_cases hlt : i < n
    · obtain ⟨x, hx⟩ : ∃ x, l[i]? = some x := ⟨l[i]'(by have := HL.out; omega), List.getElem?_eq_getElem _⟩
      obtain ⟨g1, off, rfl, hg1, hcell⟩ := (HV.out.keep hb) (by rw [moL_len]; have := HL.out; omega)
      have m0 : wr.cell? ⟨g1, off + i * 6, none⟩ = some (.int .i64 x.tk) := hcell _ _ (moL_at hx (j := 0) (by omega))
      have m1 : wr.cell? ⟨g1, off + i * 6 + 1, none⟩ = some (.int .i64 x.kind) := by rw [Nat.add_assoc]; exact hcell _ _ (moL_at hx (j := 1) (by omega))
      have m2 : wr.cell? ⟨g1, off + i * 6 + 2, none⟩ = some (.int .i64 x.key) := by rw [Nat.add_assoc]; exact hcell _ _ (moL_at hx (j := 2) (by omega))
      have m3 : wr.cell? ⟨g1, off + i * 6 + 3, none⟩ = some (.int .i64 x.reg) := by rw [Nat.add_assoc]; exact hcell _ _ (moL_at hx (j := 3) (by omega))
      have m4 : wr.cell? ⟨g1, off + i * 6 + 4, none⟩ = some (.int .i64 x.num) := by rw [Nat.add_assoc]; exact hcell _ _ (moL_at hx (j := 4) (by omega))
      have m5 : wr.cell? ⟨g1, off + i * 6 + 5, none⟩ = some (.int .i64 x.den) := by rw [Nat.add_assoc]; exact hcell _ _ (moL_at hx (j := 5) (by omega))
      have hgx : l.getD i mo0 = x := by rw [List.getD_eq_getElem?_getD, hx]; rfl
      have HX := Lib.hid hgx
      clear hcell hx hgx
      go_upto_region 6 with (fail)
      clear m0 m1 m2 m3 m4 m5
      have q5 : Blk 137 (wr.alloc (.cells #[.int .i64 x.tk, .int .i64 x.kind, .int .i64 x.key, .int .i64 x.reg, .int .i64 x.num, .int .i64 x.den] 137)) wr.heap.size (moC x) := Blk.new wr 137 _
      have hbl := below_new wr (.cells #[.int .i64 x.tk, .int .i64 x.kind, .int .i64 x.key, .int .i64 x.reg, .int .i64 x.num, .int .i64 x.den] 137)
      have hb2 := below_on hb hb.size hbl
      have hB2 := hB0.keep hbl
      have hgw : w1.heap.size ≤ g := by have := HG.out; omega
      clear hB0 hb hbl
      obtain ⟨q, hq⟩ : ∃ q, q = wr.heap.size := ⟨_, rfl⟩
      rw [← hq] at q5 ⊢
      clear hq
      generalize wr.alloc (.cells #[.int .i64 x.tk, .int .i64 x.kind, .int .i64 x.key, .int .i64 x.reg, .int .i64 x.num, .int .i64 x.den] 137) = V at *
      have e0 : V.cell? ⟨q, 0, none⟩ = some (.int .i64 x.tk) := q5.cell 0
      have e1 : V.cell? ⟨q, 1, none⟩ = some (.int .i64 x.kind) := q5.cell 1
      have e2 : V.cell? ⟨q, 2, none⟩ = some (.int .i64 x.key) := q5.cell 2
      have e3 : V.cell? ⟨q, 3, none⟩ = some (.int .i64 x.reg) := q5.cell 3
      have hf4 : ∀ y, (if y < i then evC (l.getD y mo0) else [Value.int .i64 0, .int .i64 0, .int .i64 0, .int .i64 0]).length = 4 := fun y => by split <;> rfl
      have k0 : V.cell? ⟨g, i * 4, none⟩ = some (.int .i64 0) := by rw [hB2.cell]; have := flat_at hf4 (range_at hlt) (j := 0) (by omega); simpa using this
      have k1 : V.cell? ⟨g, i * 4 + 1, none⟩ = some (.int .i64 0) := by rw [hB2.cell]; have := flat_at hf4 (range_at hlt) (j := 1) (by omega); simpa using this
      have k2 : V.cell? ⟨g, i * 4 + 2, none⟩ = some (.int .i64 0) := by rw [hB2.cell]; have := flat_at hf4 (range_at hlt) (j := 2) (by omega); simpa using this
      have k3 : V.cell? ⟨g, i * 4 + 3, none⟩ = some (.int .i64 0) := by rw [hB2.cell]; have := flat_at hf4 (range_at hlt) (j := 3) (by omega); simpa using this
      have fz := hB2.frozen
      have hB3 := blk_set4 hf4 hB2 hlt (.int .i64 x.tk) (.int .i64 x.kind) (.int .i64 x.key) (.int .i64 x.reg)
      have hb3 := below_set (below_set (below_set (below_set hb2 hgw (i := i * 4) (.int .i64 x.tk)) hgw (i := i * 4 + 1) (.int .i64 x.kind)) hgw (i := i * 4 + 2) (.int .i64 x.key)) hgw (i := i * 4 + 3) (.int .i64 x.reg)
      have hfe : upd (fun y => if y < i then evC (l.getD y mo0) else [Value.int .i64 0, .int .i64 0, .int .i64 0, .int .i64 0]) i [.int .i64 x.tk, .int .i64 x.kind, .int .i64 x.key, .int .i64 x.reg] =
          fun y => if y < i + 1 then evC (l.getD y mo0) else [Value.int .i64 0, .int .i64 0, .int .i64 0, .int .i64 0] := by
        funext y
        simp only [upd]
        by_cases hy : y = i
        · rw [if_pos hy, if_pos (by omega), hy, HX.out]; rfl
        · rw [if_neg hy]
          by_cases h2 : y < i
          · rw [if_pos h2, if_pos (by omega)]
          · rw [if_neg h2, if_neg (by omega)]
      rw [hfe] at hB3
      have HB3 := Lib.hid hB3
      have HBL := Lib.hid hb3
      clear hB3 hb3 hfe hf4 hB2 hb2 q5
      go_wp2_with (fail)
      go_roundw
      case rel => exact ⟨i + 1, by omega, by go_num, HB3.out, HBL.out⟩
      case measure => simp [intOf]; omega
    · obtain rfl : i = n := by omega
      have hfin : (List.range i).flatMap (fun j => if j < i then evC (l.getD j mo0) else [Value.int .i64 0, .int .i64 0, .int .i64 0, .int .i64 0]) = evL l := by
        have h1 : (List.range i).flatMap (fun j => if j < i then evC (l.getD j mo0) else [Value.int .i64 0, .int .i64 0, .int .i64 0, .int .i64 0]) = (List.range i).flatMap (fun j => evC (l.getD j mo0)) := by
          unfold List.flatMap
          congr 1
          apply List.map_congr_left
          intro a ha
          rw [if_pos (List.mem_range.1 ha)]
        rw [h1, ← HL.out]
        exact range_flat evC l mo0
      rw [hfin] at hB0
      have HB := Lib.hid hB0
      clear hB0 hfin
      go_wp2
      go_ret
      refine ⟨_, rfl, ⟨g, i, rfl, ?_, Nat.le_refl _, ?_, ?_, ?_⟩, HC.out.on hb⟩
      · have := HC.out.size; have := HG.out; omega
      · unfold maxLen; omega
      · rw [evL, flat_len evC_len, HL.out]
      · have := Hd.of_blk HB.out
        rwa [evL, flat_len evC_len, HL.out] at this
end Go.Proofs.Ytpaemlkikkcjiaa
