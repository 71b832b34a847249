/- Part of the proof of WireCertain: FloorF, Bnd, Flr, RFl, RFlr. -/
import Derived.Test.YthgekjkgfccnaaaPartB
import Derived.Laws.AppendOwnNone
/- Plain: the lower bounds on the number of coils. -/
namespace Go.Proofs.Ythgekjkgfccnaaa

/-- Counted pieces, room beside them, the short ones. -/
def bStep (k coil : Int) (t : Int × Int × Int) (p : Int) : Int × Int × Int :=
  if coil - k < p then (t.1 + 1, t.2.1, t.2.2)
  else if coil < 2 * p then (t.1 + 1, t.2.1 + (coil - p), t.2.2)
  else if k ≤ p then (t.1, t.2.1, t.2.2 + p) else t
def bFold (k coil : Int) (l : List Int) : Int × Int × Int := l.foldl (bStep k coil) (0, 0, 0)
def bEnd (coil : Int) (t : Int × Int × Int) : Int := if t.2.1 < t.2.2 then t.1 + (t.2.2 - t.2.1 + coil - 1) / coil else t.1
def boundF (k coil : Int) (l : List Int) : Int := bEnd coil (bFold k coil l)
def fStep (l : List Int) (coil b k : Int) : Int := if 2 * k ≤ coil then max b (boundF k coil l) else b
def floorF (l : List Int) (coil : Int) : Int := l.foldl (fStep l coil) (boundF 0 coil l)

theorem bFold_snoc {k coil : Int} {l : List Int} {i : Nat} {x : Int} (h : l[i]? = some x) : bFold k coil (l.take (i + 1)) = bStep k coil (bFold k coil (l.take i)) x := by
  unfold bFold
  rw [List.take_add_one, h]
  simp
def fFold (l : List Int) (coil : Int) (m : List Int) : Int := m.foldl (fStep l coil) (boundF 0 coil l)
theorem fFold_snoc {l m : List Int} {coil : Int} {i : Nat} {x : Int} (h : m[i]? = some x) : fFold l coil (m.take (i + 1)) = fStep l coil (fFold l coil (m.take i)) x := by
  unfold fFold
  rw [List.take_add_one, h]
  simp

/-- What holds of the counts after some pieces. -/
structure BOk (coil : Int) (n : Nat) (t : Int × Int × Int) : Prop where
  c0 : 0 ≤ t.1
  cn : t.1 ≤ n
  r0 : 0 ≤ t.2.1
  rn : t.2.1 ≤ n * 1000000000
  s0 : 0 ≤ t.2.2
  sn : t.2.2 ≤ n * 1000000000
  sc : t.2.2 ≤ (n - t.1) * coil
theorem BOk.start (coil : Int) : BOk coil 0 (0, 0, 0) := ⟨by simp, by simp, by simp, by simp, by simp, by simp, by simp⟩
theorem BOk.step {k coil x : Int} {n : Nat} {t : Int × Int × Int} (h : BOk coil n t) (hc : 1 ≤ coil ∧ coil ≤ 1000000000) (hx : 1 ≤ x ∧ x ≤ coil) : BOk coil (n + 1) (bStep k coil t x) := by
  obtain ⟨c, r, s⟩ := t
  obtain ⟨h1, h2, h3, h4, h5, h6, h7⟩ := h
  simp only at *
  unfold bStep
  have e : ((n : Int) + 1 - c) * coil = ((n : Int) - c) * coil + coil := by grind
  have e2 : ((n : Int) + 1 - (c + 1)) * coil = ((n : Int) - c) * coil := by grind
  split
  · exact ⟨by simp only; omega, by simp only; push_cast; omega, by simp only; omega, by simp only; push_cast; omega, by simp only; omega, by simp only; push_cast; omega, by simp only; push_cast; rw [e2]; exact h7⟩
  · split
    · exact ⟨by simp only; omega, by simp only; push_cast; omega, by simp only; omega, by simp only; push_cast; omega, by simp only; omega, by simp only; push_cast; omega, by simp only; push_cast; rw [e2]; exact h7⟩
    · split
      · exact ⟨by simp only; omega, by simp only; push_cast; omega, by simp only; omega, by simp only; push_cast; omega, by simp only; omega, by simp only; push_cast; omega, by simp only; push_cast; rw [e]; omega⟩
      · exact ⟨by simp only; omega, by simp only; push_cast; omega, by simp only; omega, by simp only; push_cast; omega, by simp only; omega, by simp only; push_cast; omega, by simp only; push_cast; rw [e]; omega⟩
theorem bFold_ok {k coil : Int} {l : List Int} (hc : 1 ≤ coil ∧ coil ≤ 1000000000) (hl : ∀ x ∈ l, 1 ≤ x ∧ x ≤ coil) : ∀ i, i ≤ l.length → BOk coil i (bFold k coil (l.take i))
  | 0, _ => by simpa [bFold] using BOk.start coil
  | i + 1, h => by
    have hx : l[i]? = some l[i] := List.getElem?_eq_getElem (by omega)
    rw [bFold_snoc hx]
    exact (bFold_ok hc hl i (by omega)).step hc (hl _ (List.getElem_mem _))
theorem div_lt_of {a b coil : Int} (hc : 0 < coil) (h : a < (b + 1) * coil) : a / coil ≤ b := by
  have := Int.ediv_lt_of_lt_mul hc h
  omega
theorem bEnd_ok {coil : Int} {n : Nat} {t : Int × Int × Int} (h : BOk coil n t) (hc : 1 ≤ coil) : 0 ≤ bEnd coil t ∧ bEnd coil t ≤ n ∧ (t.2.1 < t.2.2 → 0 ≤ (t.2.2 - t.2.1 + coil - 1) / coil) := by
  obtain ⟨c, r, s⟩ := t
  obtain ⟨h1, h2, h3, h4, h5, h6, h7⟩ := h
  simp only at *
  unfold bEnd
  refine ⟨?_, ?_, ?_⟩
  · split
    · have := Int.ediv_nonneg (a := s - r + coil - 1) (b := coil) (by simp only at *; omega) (by omega)
      simp only; omega
    · exact h1
  · split
    · have : (s - r + coil - 1) / coil ≤ (n : Int) - c := div_lt_of (by omega) (by
        have e : ((n : Int) - c + 1) * coil = ((n : Int) - c) * coil + coil := by grind
        rw [e]; omega)
      simp only; omega
    · exact h2
  · intro h
    exact Int.ediv_nonneg (by omega) (by omega)
theorem boundF_ok {k coil : Int} {l : List Int} (hc : 1 ≤ coil ∧ coil ≤ 1000000000) (hl : ∀ x ∈ l, 1 ≤ x ∧ x ≤ coil) : 0 ≤ boundF k coil l ∧ boundF k coil l ≤ l.length := by
  have := bFold_ok (k := k) hc hl l.length (Nat.le_refl _)
  rw [List.take_length] at this
  exact ⟨(bEnd_ok this hc.1).1, (bEnd_ok this hc.1).2.1⟩
theorem fStep_ok {l : List Int} {coil b k : Int} (hc : 1 ≤ coil ∧ coil ≤ 1000000000) (hl : ∀ x ∈ l, 1 ≤ x ∧ x ≤ coil) (hb : 0 ≤ b ∧ b ≤ l.length) : 0 ≤ fStep l coil b k ∧ fStep l coil b k ≤ l.length ∧ b ≤ fStep l coil b k := by
  have := boundF_ok (k := k) hc hl
  unfold fStep
  split <;> omega
theorem fFold_ok {l m : List Int} {coil : Int} (hc : 1 ≤ coil ∧ coil ≤ 1000000000) (hl : ∀ x ∈ l, 1 ≤ x ∧ x ≤ coil) : ∀ i, i ≤ m.length → 0 ≤ fFold l coil (m.take i) ∧ fFold l coil (m.take i) ≤ l.length ∧ boundF 0 coil l ≤ fFold l coil (m.take i)
  | 0, _ => by have := boundF_ok (k := 0) hc hl; simp [fFold]; omega
  | i + 1, h => by
    have hx : m[i]? = some m[i] := List.getElem?_eq_getElem (by omega)
    rw [fFold_snoc hx]
    have h1 := fFold_ok (m := m) hc hl i (by omega)
    have := fStep_ok (k := m[i]) hc hl ⟨h1.1, h1.2.1⟩
    omega
theorem floorF_ok {l : List Int} {coil : Int} (hc : 1 ≤ coil ∧ coil ≤ 1000000000) (hl : ∀ x ∈ l, 1 ≤ x ∧ x ≤ coil) : 0 ≤ floorF l coil ∧ floorF l coil ≤ l.length ∧ boundF 0 coil l ≤ floorF l coil := by
  have := fFold_ok (m := l) hc hl l.length (Nat.le_refl _)
  rwa [List.take_length] at this
/-- The bound of 0 is long enough for all pieces. -/
theorem bSum {coil : Int} : ∀ (l : List Int) (t : Int × Int × Int), (∀ x ∈ l, 1 ≤ x ∧ x ≤ coil) → 
    (l.foldl (bStep 0 coil) t).1 * coil - (l.foldl (bStep 0 coil) t).2.1 + (l.foldl (bStep 0 coil) t).2.2 = t.1 * coil - t.2.1 + t.2.2 + l.sum
  | [], t, _ => by simp
  | x :: l, (c, r, s), h => by
    have hx := h x (by simp)
    rw [List.foldl_cons, bSum l _ (fun y hy => h y (by simp [hy])), List.sum_cons]
    unfold bStep
    simp only
    rw [if_neg (by omega)]
    split
    · simp only; grind
    · rw [if_pos (by omega)]; simp only; grind
theorem bound_sum {coil : Int} {l : List Int} (hc : 1 ≤ coil) (hl : ∀ x ∈ l, 1 ≤ x ∧ x ≤ coil) : l.sum ≤ boundF 0 coil l * coil := by
  have h := bSum l (0, 0, 0) hl
  have hr : ∀ (m : List Int) (t : Int × Int × Int), (∀ x ∈ m, 1 ≤ x ∧ x ≤ coil) → 0 ≤ t.2.1 → 0 ≤ (m.foldl (bStep 0 coil) t).2.1 := by
    intro m
    induction m with
    | nil => intro t _ h; exact h
    | cons x m ih =>
      intro t hx h0
      have hx1 := hx x (by simp)
      refine ih _ (fun y hy => hx y (by simp [hy])) ?_
      unfold bStep
      split
      · exact h0
      · split
        · simp only; omega
        · split <;> exact h0
  have h0 := hr l (0, 0, 0) hl (by simp)
  unfold boundF bFold bEnd
  generalize l.foldl (bStep 0 coil) (0, 0, 0) = t at *
  obtain ⟨c, r, s⟩ := t
  simp only at *
  split
  · have h1 := Int.lt_ediv_add_one_mul_self (s - r + coil - 1) (show 0 < coil by omega)
    generalize (s - r + coil - 1) / coil = q at *
    have e : (c + q) * coil = c * coil + q * coil := by grind
    have e2 : (q + 1) * coil = q * coil + coil := by grind
    rw [e]; rw [e2] at h1
    omega
  · omega
end Go.Proofs.Ythgekjkgfccnaaa

namespace Go.Proofs.Ythgekjkgfccnaaa
open Go.RowKit

theorem wr {x : Int} (h : -4000000000000000000 ≤ x) (h' : x ≤ 4000000000000000000) : wrap64 x = x := by unfold wrap64; omega
theorem lt_t {a b : Int} (h : a < b) : decide (a < b) = true := by simpa using h
theorem lt_f {a b : Int} (h : ¬ a < b) : decide (a < b) = false := by simpa using h
theorem le_t {a b : Int} (h : a ≤ b) : decide (a ≤ b) = true := by simpa using h
theorem le_f {a b : Int} (h : ¬ a ≤ b) : decide (a ≤ b) = false := by simpa using h

set_option maxHeartbeats 4000000 in
set_option maxRecDepth 100000 in
theorem boundOf_any (k coil : Int) (A : Option Addr) (cp L : Nat) (l : List Int) (w : World) (hA : Ints w A l) (hL : L = l.length) (hn : l.length ≤ 100) (hc : 1 ≤ coil ∧ coil ≤ 1000000000) (hl : ∀ x ∈ l, 1 ≤ x ∧ x ≤ coil) (hk : 0 ≤ k ∧ k ≤ 1000000000) :
    Calls Try.prog 38 #[.int .i64 k, .slice A L cp, .int .i64 coil] w (IntEnd w (boundF k coil l)) := by
  have hbo := bFold_ok (k := k) hc hl
  have HBO := Lib.hid hbo
  have HL := Lib.hid hL
  have HA := Lib.hid hA
  have HX := Lib.hid hl
  have hst : bFold k coil (l.take 0) = (0, 0, 0) := rfl
  have HST := Lib.hid hst
  have HRES : Hid (boundF k coil l = bEnd coil (bFold k coil l)) := Lib.hid rfl
  have hLn : L ≤ 100 := by omega
  generalize boundF k coil l = res at *
  clear hbo hL hA hl hst
  go_enter Try.func38, Try.ntmps38
  go_wp2
  go_loop [7, 8, 9, 11, 14, 18, 26, 38] (fun c r s _ t _ _ _ => ∃ (i : Nat) (cv rv sv : Int), i ≤ L ∧ t = .int .i64 (i : Int) ∧ c = .int .i64 cv ∧ r = .int .i64 rv ∧ s = .int .i64 sv ∧ Hid (bFold k coil (l.take i) = (cv, rv, sv))) (fun _ _ _ _ t _ _ _ => L - (intOf t).toNat)
  case atStart => exact ⟨0, 0, 0, 0, Nat.zero_le _, rfl, rfl, rfl, rfl, HST⟩
  case round =>
    obtain ⟨i, c, r, s, hi, rfl, rfl, rfl, rfl, HF⟩ := hrel
    have hb := HBO.out i (by have := HL.out; omega)
    rw [HF.out] at hb
    obtain ⟨b1, b2, b3, b4, b5, b6, b7⟩ := hb
    simp only at b1 b2 b3 b4 b5 b6 b7
    by_cases hlt : i < L
    · have hil : i < l.length := by have := HL.out; omega
      obtain ⟨g, off, x, rfl, hg, hx, hcx⟩ := Ints.at_ HA.out (i := i) hil
      have hxx := HX.out x (List.mem_of_getElem? hx)
      have hsn := bFold_snoc (k := k) (coil := coil) hx
      rw [HF.out] at hsn
      have B7 := Lib.hid b7
      clear b7
      have hi14 : (i : Int) ≤ 100 := by omega
      by_cases t1 : coil - k < x
      · have hn : bStep k coil (c, r, s) x = (c + 1, r, s) := by unfold bStep; rw [if_pos t1]
        rw [hn] at hsn
        have HN := Lib.hid hsn
        have d1 := lt_t t1
        clear hn hsn hx t1
        go_wp2
        go_round
        case rel => exact ⟨i + 1, _, _, _, by omega, by go_num, rfl, rfl, rfl, HN⟩
        case measure => simp [intOf]; omega
      · have d1 := lt_f t1
        by_cases t2 : coil < 2 * x
        · have hn : bStep k coil (c, r, s) x = (c + 1, r + (coil - x), s) := by unfold bStep; rw [if_neg t1, if_pos t2]
          rw [hn] at hsn
          have HN := Lib.hid hsn
          have d2 := lt_t t2
          clear hn hsn hx t1 t2
          go_wp2
          go_round
          case rel => exact ⟨i + 1, _, _, _, by omega, by go_num, rfl, rfl, rfl, HN⟩
          case measure => simp [intOf]; omega
        · have d2 := lt_f t2
          by_cases t3 : k ≤ x
          · have hn : bStep k coil (c, r, s) x = (c, r, s + x) := by unfold bStep; rw [if_neg t1, if_neg t2, if_pos t3]
            rw [hn] at hsn
            have HN := Lib.hid hsn
            have d3 := le_t t3
            clear hn hsn hx t1 t2 t3
            go_wp2
            go_round
            case rel => exact ⟨i + 1, _, _, _, by omega, by go_num, rfl, rfl, rfl, HN⟩
            case measure => simp [intOf]; omega
          · have hn : bStep k coil (c, r, s) x = (c, r, s) := by unfold bStep; rw [if_neg t1, if_neg t2, if_neg t3]
            rw [hn] at hsn
            have HN := Lib.hid hsn
            have d3 := le_f t3
            clear hn hsn hx t1 t2 t3
            go_wp2
            go_round
            case rel => exact ⟨i + 1, _, _, _, by omega, by go_num, rfl, rfl, rfl, HN⟩
            case measure => simp [intOf]; omega
    · obtain rfl : i = L := by omega
      have hres : res = bEnd coil (c, r, s) := by have := HRES.out; have h2 := HF.out; rw [HL.out, List.take_length] at h2; rw [h2] at this; exact this
      have he := bEnd_ok (t := (c, r, s)) ⟨b1, b2, b3, b4, b5, b6, b7⟩ hc.1
      by_cases t1 : r < s
      · have hr2 : res = c + (s - r + coil - 1) / coil := by rw [hres]; unfold bEnd; rw [if_pos t1]
        rw [← hres, hr2] at he
        have hq := he.2.2 t1
        simp only at hq
        have w4 : (s - r + coil - 1).tdiv coil = (s - r + coil - 1) / coil := Int.tdiv_eq_ediv_of_nonneg (by omega)
        have g1 : 0 ≤ s - r + coil - 1 := by omega
        generalize (s - r + coil - 1) / coil = q at *
        have hqn : q ≤ 100 := by omega
        have z : ¬ coil = 0 := by omega
        have d1 := lt_t t1
        have HR := Lib.hid hr2
        clear hres hr2 he b7 t1
        go_wp2
        go_ret
        exact ⟨by rw [HR.out]; rfl, rfl⟩
      · have hr2 : res = c := by rw [hres]; unfold bEnd; rw [if_neg t1]
        have d1 := lt_f t1
        have HR := Lib.hid hr2
        clear hres hr2 he b1 b2 b3 b4 b5 b6 b7 t1
        go_wp2
        go_ret
        exact ⟨by rw [HR.out]; rfl, rfl⟩
end Go.Proofs.Ythgekjkgfccnaaa

namespace Go.Proofs.Ythgekjkgfccnaaa
open Go.RowKit

theorem max_if (a b : Int) : max a b = if a < b then b else a := by split <;> omega
theorem pcErr_0 {l : List Int} {coil : Int} (h : pcErr l coil = 0) : l.length ≤ 14 ∧ (1 ≤ coil ∧ coil ≤ 1000000000) ∧ (∀ x ∈ l, 1 ≤ x ∧ x ≤ 1000000000) ∧ ∀ x ∈ l, 1 ≤ x ∧ x ≤ coil := by
  unfold pcErr at h
  split at h
  · cases h
  · rename_i h1
    split at h
    · cases h
    · rename_i h2
      split at h
      · cases h
      · rename_i h3
        simp only [not_or, Bool.not_eq_false] at h1 h2 h3
        have hc := inB_t h1.2
        have ha := allB_mem h2
        have hb := allB_mem h3
        refine ⟨by omega, hc, fun x hx => inB_t (ha x hx), fun x hx => ⟨(inB_t (ha x hx)).1, ?_⟩⟩
        have := hb x hx
        simpa [leB] using this
theorem pcErr_of {l : List Int} {coil : Int} (h1 : l.length ≤ 14) (h2 : 1 ≤ coil ∧ coil ≤ 1000000000) (h3 : ∀ x ∈ l, 1 ≤ x ∧ x ≤ coil) : pcErr l coil = 0 := by
  have e1 : rangeB coil = true := inB_of h2
  have e2 : allB rangeB l = true := List.all_eq_true.2 fun x hx => inB_of (by have := h3 x hx; omega)
  have e3 : allB (leB coil) l = true := List.all_eq_true.2 fun x hx => by have := h3 x hx; simp [leB]; omega
  unfold pcErr
  rw [if_neg (by rw [e1]; simp; omega), if_neg (by rw [e2]; simp), if_neg (by rw [e3]; simp)]
def Int2q (w : World) (n k : Int) (e : Ending) (w' : World) : Prop := e = .returned (.tuple #[.int .i64 n, .int .i64 k]) ∧ w = w'
set_option maxHeartbeats 4000000 in
set_option maxRecDepth 100000 in
theorem Floor_bad (A : Option Addr) (cp L : Nat) (l : List Int) (coil : Int) (w : World) (hA : Ints w A l) (hL : L = l.length) (hl : l.length ≤ 1000000) (h0 : pcErr l coil ≠ 0) :
    Calls Try.prog 19 #[.slice A L cp, .int .i64 coil] w (Int2q w 0 (pcErr l coil)) := by
  have hc := checkPieces_any A cp L l coil w hA hL hl
  generalize pcErr l coil = e at *
  have hne : (e != 0) = true := by simp; exact h0
  have HC := Lib.hid hc
  clear hc h0 hA hL hl
  go_enter Try.func19, Try.ntmps19
  go_wp2_with (fail)
  refine (HC.out).mono ?_
  rintro e w1 ⟨rfl, rfl⟩
  go_wp2
  go_ret2
  exact ⟨rfl, rfl⟩
set_option maxHeartbeats 4000000 in
set_option maxRecDepth 100000 in
theorem Floor_ok (A : Option Addr) (cp L : Nat) (l : List Int) (coil : Int) (w : World) (hA : Ints w A l) (hL : L = l.length) (h0 : pcErr l coil = 0) :
    Calls Try.prog 19 #[.slice A L cp, .int .i64 coil] w (Int2q w (floorF l coil) 0) := by
  obtain ⟨hl, hco, hx1, hx2⟩ := pcErr_0 h0
  have hc := checkPieces_any A cp L l coil w hA hL (by omega)
  rw [h0] at hc
  have hbd := fun k (h : 0 ≤ k ∧ k ≤ 1000000000) => boundOf_any k coil A cp L l w hA hL (by omega) hco hx2 h
  have hok := fun i h => fFold_ok (l := l) (m := l) hco hx2 i h
  have hbk := fun k => boundF_ok (k := k) hco hx2
  have h00 := hbd 0 (by omega)
  have HC := Lib.hid hc
  have HA := Lib.hid hA
  have HL := Lib.hid hL
  have HBD := Lib.hid hbd
  have HOK := Lib.hid hok
  have H00 := Lib.hid h00
  have HX1 := Lib.hid hx1
  have HBK := Lib.hid hbk
  have hLn : L ≤ 14 := by omega
  have HST : Hid (fFold l coil (l.take 0) = boundF 0 coil l) := Lib.hid rfl
  have HRES : Hid (floorF l coil = fFold l coil l) := Lib.hid rfl
  generalize floorF l coil = res at *
  clear hc hA hL hbd hok h00 h0 hx1 hx2 hl hbk
  go_enter Try.func19, Try.ntmps19
  go_wp2_with (fail)
  refine (HC.out).mono ?_
  rintro e w1 ⟨rfl, rfl⟩
  go_wp2_with (fail)
  refine (H00.out).mono ?_
  rintro e w1 ⟨rfl, rfl⟩
  go_wp2
  go_loop [7, 9, 21] (fun b _ t => ∃ (i : Nat) (bv : Int), i ≤ L ∧ t = .int .i64 (i : Int) ∧ b = .int .i64 bv ∧ Hid (fFold l coil (l.take i) = bv)) (fun _ _ t => L - (intOf t).toNat)
  case atStart => exact ⟨0, _, Nat.zero_le _, rfl, rfl, HST⟩
  case round =>
    obtain ⟨i, b, hi, rfl, rfl, HF⟩ := hrel
    by_cases hlt : i < L
    · have hil : i < l.length := by have := HL.out; omega
      obtain ⟨g, off, x, rfl, hg, hx, hcx⟩ := Ints.at_ HA.out (i := i) hil
      have hxx := HX1.out x (List.mem_of_getElem? hx)
      have hsn := fFold_snoc (l := l) (coil := coil) hx
      rw [HF.out] at hsn
      unfold fStep at hsn
      have hi14 : (i : Int) ≤ 14 := by omega
      by_cases t1 : 2 * x ≤ coil
      · rw [if_pos t1, max_if] at hsn
        have hC := HBD.out x (by omega)
        have d1 := le_t t1
        generalize boundF x coil l = bx at *
        have HC2 := Lib.hid hC
        have HN := Lib.hid hsn
        clear hC hsn t1 hx
        go_wp2_with (fail)
        refine (HC2.out).mono ?_
        rintro e w1 ⟨rfl, rfl⟩
        go_wp2
        go_round
        case rel => exact ⟨i + 1, _, by omega, by go_num, rfl, HN⟩
        case measure => simp [intOf]; omega
      · rw [if_neg t1] at hsn
        have d1 := le_f t1
        have HN := Lib.hid hsn
        clear hsn t1 hx
        go_wp2
        go_round
        case rel => exact ⟨i + 1, _, by omega, by go_num, rfl, HN⟩
        case measure => simp [intOf]; omega
    · obtain rfl : i = L := by omega
      have hres : res = b := by have := HF.out; rw [HL.out, List.take_length] at this; rw [← this]; exact HRES.out
      have HR := Lib.hid hres
      clear hres
      go_wp2
      go_ret2
      exact ⟨by rw [HR.out]; rfl, rfl⟩
def CutPost (w : World) (l : List Int) (e : Ending) (w' : World) : Prop := ∃ g cap, e = .returned (.slice (some ⟨g, 0, none⟩) l.length cap) ∧ l.length ≤ cap ∧ w.heap.size ≤ g ∧ Hd 3 w' g cap (is l) ∧ Below w.heap.size w w'
set_option maxHeartbeats 4000000 in
set_option maxRecDepth 100000 in
theorem cut_any (A : Option Addr) (c L n : Nat) (l : List Int) (w : World) (hA : Ints w A l) (hL : L = l.length) (hc : L ≤ c) (hnil : A = none → c = 0) (hn : n ≤ 1000) :
    Calls Try.prog 18 #[.slice A L c, .int .i64 (n : Int)] w (CutPost w (l.take n)) := by
  have hA1 : Ints (w.alloc (.cells #[] 3)) A (l.take n) := by have := (Vals.take hA n).alloc (.cells #[] 3); rwa [is_take] at this
  have ho := own_empty w 3
  have hbA := below_new w (.cells #[] 3)
  obtain ⟨m, hm⟩ : ∃ m, (l.take n).length = m := ⟨_, rfl⟩
  have hmn : m ≤ 1000 := by rw [← hm, List.length_take]; omega
  have hmL : m = if n < L then n else L := by rw [← hm, List.length_take, hL]; split <;> omega
  have hpos : 0 < L → ∃ ad, A = some ad := fun h => by
    obtain ⟨g, off, x, e, _⟩ := Ints.at_ hA (i := 0) (by omega)
    exact ⟨_, e⟩
  generalize l.take n = ys at *
  obtain ⟨i0, hi, hz0, hz1, hz2⟩ := info_parts infoI
  have HM := Lib.hid hm
  have HA := Lib.hid hA1
  have HO := Lib.hid ho
  clear hm hA1 ho hA hL
  by_cases hlt : n < L
  · rw [if_pos hlt] at hmL
    subst hmL
    obtain ⟨ad, rfl⟩ := hpos (by omega)
    go_enter Try.func18, Try.ntmps18
    go_wp2_with (at_builtin
                 refine wpList_append_own _ rfl _ _ 30 rfl w.heap.size 3 i0 (.int .i64 0) 1 8 Try.underlying30 hi hz0 hz1 hz2 rfl (by decide) _ _ _ rfl HO.out ad m _ (is ys) rfl ?c1 (vals_cells HA.out) (is_one _) ?c4 ?c5 (by simp) ?_)
    case c1 => rw [is_len, HM.out]; omega
    case c4 => unfold maxLen; omega
    case c5 => omega
    intro v' w1 hown hgr hne
    have hb1 := hbA.grown hgr hbA.size (by simp [Value.ownBlock])
    go_wp2
    go_ret
    have hv : v' ≠ .slice none 0 0 := by simpa using hne
    obtain ⟨g, cap, he, h1, _, h2⟩ := Hd.of_owns hown hv
    rw [is_len] at he
    subst he
    exact ⟨g, cap, rfl, by have := h2.cap_le; rwa [is_len] at this, h1, h2, hb1⟩
  · rw [if_neg hlt] at hmL
    subst hmL
    rcases A with _ | ad
    · have h0 : m = 0 := by
        rcases Nat.eq_zero_or_pos m with h | h
        · exact h
        · obtain ⟨ad, e⟩ := hpos h; cases e
      have hy : ys = [] := List.eq_nil_of_length_eq_zero (by rw [HM.out]; exact h0)
      have hc0 := hnil rfl
      subst h0
      subst hc0
      have hh : Hd 3 (w.alloc (.cells #[] 3)) w.heap.size 0 [] := ⟨[], rfl, Blk.new w 3 []⟩
      have HY := Lib.hid hy
      have HH := Lib.hid hh
      clear hy hnil hpos hh
      go_enter Try.func18, Try.ntmps18
      go_wp2_with (at_builtin; refine wpList_append_own_none rfl _ _ 30 rfl w.heap.size 3 i0 1 Try.underlying30 hi _ _ _ rfl HO.out rfl ?_)
      go_ret
      rw [HY.out]
      exact ⟨_, _, rfl, Nat.le_refl _, Nat.le_refl _, HH.out, hbA⟩
    · clear hnil hpos
      go_enter Try.func18, Try.ntmps18
      go_wp2_with (at_builtin
                   refine wpList_append_own _ rfl _ _ 30 rfl w.heap.size 3 i0 (.int .i64 0) 1 8 Try.underlying30 hi hz0 hz1 hz2 rfl (by decide) _ _ _ rfl HO.out ad m _ (is ys) rfl ?c1 (vals_cells HA.out) (is_one _) ?c4 ?c5 (by simp) ?_)
      case c1 => rw [is_len, HM.out]; omega
      case c4 => unfold maxLen; omega
      case c5 => omega
      intro v' w1 hown hgr hne
      have hb1 := hbA.grown hgr hbA.size (by simp [Value.ownBlock])
      go_wp2
      go_ret
      have hv : v' ≠ .slice none 0 0 := by simpa using hne
      obtain ⟨g, cap, he, h1, _, h2⟩ := Hd.of_owns hown hv
      rw [is_len] at he
      subst he
      exact ⟨g, cap, rfl, by have := h2.cap_le; rwa [is_len] at this, h1, h2, hb1⟩
end Go.Proofs.Ythgekjkgfccnaaa

namespace Go.Proofs.Ythgekjkgfccnaaa
open Go.RowKit

set_option maxHeartbeats 1000000 in
set_option maxRecDepth 100000 in
theorem refPieces_any (A : Option Addr) (cp L : Nat) (l : List Int) (coil : Int) (w : World) (hA : Ints w A l) (hL : L = l.length) (hl : l.length ≤ 1000000) :
    Calls Try.prog 20 #[.slice A L cp, .int .i64 coil] w (IntEnd w (pcErr l coil)) := by
  by_cases h14 : 14 < L
  · have he : pcErr l coil = 1 := by unfold pcErr; rw [if_pos (.inl (by omega))]
    rw [he]
    have hd : decide (14 < (L : Int)) = true := by simp; omega
    have hd2 : decide (14 < L) = true := by simpa using h14
    clear hL he hl
    go_enter Try.func20, Try.ntmps20
    go_wp2
    go_ret
    exact ⟨rfl, rfl⟩
  · have hd : decide (14 < (L : Int)) = false := by simp; omega
    have hd2 : decide (14 < L) = false := by simpa using h14
    have hw : ∀ v, rangeB v = inB v 1 1000000000 := fun _ => rfl
    have hwi := fun (v : Int) (W : World) => (show Calls Try.prog 34 #[.int .i64 v, .int .i64 1, .int .i64 1000000000] W fun e w' => e = .returned (.bool (rangeB v)) ∧ W = w' from in_any v 1 1000000000 W)
    cases hc : rangeB coil with
    | false =>
      have he : pcErr l coil = 1 := by unfold pcErr; rw [if_pos (.inr hc)]
      rw [he]
      have hcl := hwi coil w
      rw [hc] at hcl
      have HC := Lib.hid hcl
      have HW := Lib.hid hwi
      clear hL he hl hcl hw hwi hc
      go_enter Try.func20, Try.ntmps20
      go_wp2_with (fail)
      refine (HC.out).mono ?_
      rintro e w1 ⟨rfl, rfl⟩
      go_wp2
      go_ret
      exact ⟨rfl, rfl⟩
    | true =>
      have hcl := hwi coil w
      rw [hc] at hcl
      have HC := Lib.hid hcl
      have HW := Lib.hid hwi
      have HL := Lib.hid hL
      have HCO := Lib.hid hc
      have HA := Lib.hid hA
      have HN : ¬ (14 < l.length ∨ rangeB coil = false) := by rw [hc, ← hL]; simp; omega
      have HNN := Lib.hid HN
      clear hL hcl hw hwi hc hA HN
      go_enter Try.func20, Try.ntmps20
      go_wp2_with (fail)
      refine (HC.out).mono ?_
      rintro e w1 ⟨rfl, rfl⟩
      go_wp2
      go_loop [5] (fun t => ∃ k : Nat, k ≤ L ∧ t = .int .i64 (k : Int) ∧ allB rangeB (l.take k) = true) (fun t => L - (intOf t).toNat)
      case atStart => exact ⟨0, Nat.zero_le _, rfl, rfl⟩
      case round =>
        obtain ⟨k, hk, rfl, hal⟩ := hrel
        have HAL := Lib.hid hal
        clear hal
        by_cases hlt : k < L
        · obtain ⟨g, off, x, rfl, hg, hx, hcx⟩ := Ints.at_ HA.out (i := k) (by have := HL.out; omega)
          have HX := Lib.hid hx
          clear hx
          cases hf : rangeB x with
          | false =>
            have he : pcErr l coil = 1 := by unfold pcErr; rw [if_neg HNN.out, if_pos (allB_bad HX.out hf)]
            have hcl := HW.out x w
            rw [hf] at hcl
            have HC2 := Lib.hid hcl
            have HE := Lib.hid he
            clear hcl hf he
            go_wp2_with (fail)
            refine (HC2.out).mono ?_
            rintro e w1 ⟨rfl, rfl⟩
            go_wp2
            go_ret
            exact ⟨by rw [HE.out]; rfl, rfl⟩
          | true =>
            have hcl := HW.out x w
            rw [hf] at hcl
            have HC2 := Lib.hid hcl
            have hn := allB_take_succ HAL.out HX.out hf
            have HNx := Lib.hid hn
            clear hcl hf hn
            go_wp2_with (fail)
            refine (HC2.out).mono ?_
            rintro e w1 ⟨rfl, rfl⟩
            go_wp2
            go_round
            case rel => exact ⟨k + 1, by omega, by go_num, HNx.out⟩
            case measure => simp [intOf]; omega
        · obtain rfl : k = L := by omega
          have hall : allB rangeB l = true := by have := HAL.out; rwa [HL.out, List.take_length] at this
          have HALL := Lib.hid hall
          clear hall
          go_wp2
          go_loop [6] (fun t => ∃ j : Nat, j ≤ k ∧ t = .int .i64 (j : Int) ∧ allB (leB coil) (l.take j) = true) (fun t => k - (intOf t).toNat)
          case atStart => exact ⟨0, Nat.zero_le _, rfl, rfl⟩
          case round =>
            obtain ⟨j, hj, rfl, hal⟩ := hrel
            have HAL2 := Lib.hid hal
            clear hal
            by_cases hlt : j < k
            · obtain ⟨g, off, x, rfl, hg, hx, hcx⟩ := Ints.at_ HA.out (i := j) (by have := HL.out; omega)
              have HX := Lib.hid hx
              clear hx
              by_cases hf : coil < x
              · have he : pcErr l coil = 3 := by
                  unfold pcErr
                  rw [if_neg HNN.out, if_neg (by rw [HALL.out]; simp), if_pos (allB_bad HX.out (by unfold leB; simp; omega))]
                have HE := Lib.hid he
                clear he
                go_wp2
                go_ret
                exact ⟨by rw [HE.out]; rfl, rfl⟩
              · have hn := allB_take_succ (f := leB coil) HAL2.out HX.out (by unfold leB; simp; omega)
                have HNx := Lib.hid hn
                clear hn
                go_wp2
                go_round
                case rel => exact ⟨j + 1, by omega, by go_num, HNx.out⟩
                case measure => simp [intOf]; omega
            · obtain rfl : j = k := by omega
              have hall2 : allB (leB coil) l = true := by have := HAL2.out; rwa [HL.out, List.take_length] at this
              have he : pcErr l coil = 0 := by
                unfold pcErr
                rw [if_neg HNN.out, if_neg (by rw [HALL.out]; simp), if_neg (by rw [hall2]; simp)]
              have HE := Lib.hid he
              clear he hall2
              go_wp2
              go_ret
              exact ⟨by rw [HE.out]; rfl, rfl⟩

/-- What the specification's count of a bound reads as. -/
structure RefB (k coil : Int) (l : List Int) (i : Nat) (f g u s : Int) : Prop where
  eq : bFold k coil (l.take i) = (f + g, g * coil - u, s)
  f0 : 0 ≤ f
  g0 : 0 ≤ g
  n : f + g ≤ i
  u0 : 0 ≤ u
  un : u ≤ i * 1000000000
theorem RefB.start (k coil : Int) (l : List Int) : RefB k coil l 0 0 0 0 0 := ⟨by simp [bFold], by omega, by omega, by simp, by omega, by simp⟩
theorem RefB.next {k coil : Int} {l : List Int} {i : Nat} {f g u s x : Int} (h : RefB k coil l i f g u s) (hx : l[i]? = some x) (hc : 1 ≤ coil ∧ coil ≤ 1000000000) (hxx : 1 ≤ x ∧ x ≤ coil) :
    (coil - k < x → RefB k coil l (i + 1) (f + 1) g u s) ∧ (¬ coil - k < x → coil < 2 * x → RefB k coil l (i + 1) f (g + 1) (u + x) s) ∧
    (¬ coil - k < x → ¬ coil < 2 * x → k ≤ x → RefB k coil l (i + 1) f g u (s + x)) ∧ (¬ coil - k < x → ¬ coil < 2 * x → ¬ k ≤ x → RefB k coil l (i + 1) f g u s) := by
  have e := bFold_snoc (k := k) (coil := coil) hx
  rw [h.eq] at e
  obtain ⟨h1, h2, h3, h4, h5, h6⟩ := h
  unfold bStep at e
  simp only at e
  refine ⟨fun a => ?_, fun a b => ?_, fun a b c => ?_, fun a b c => ?_⟩
  · rw [if_pos a] at e
    exact ⟨by rw [e]; simp only [Prod.mk.injEq, and_true]; omega, by omega, h3, by push_cast; omega, h5, by push_cast; omega⟩
  · rw [if_neg a, if_pos b] at e
    refine ⟨?_, h2, by omega, by push_cast; omega, by omega, by push_cast; omega⟩
    rw [e]
    simp only [Prod.mk.injEq, and_true]
    exact ⟨by omega, by grind⟩
  · rw [if_neg a, if_neg b, if_pos c] at e
    exact ⟨e, h2, h3, by push_cast; omega, h5, by push_cast; omega⟩
  · rw [if_neg a, if_neg b, if_neg c] at e
    exact ⟨e, h2, h3, by push_cast; omega, h5, by push_cast; omega⟩
theorem ceil_end {coil m n : Int} (hc : 1 ≤ coil) (h0 : 0 ≤ n) (h1 : m ≤ n * coil) (h2 : n = 0 ∨ (n - 1) * coil < m) : n = if 0 < m then (m + coil - 1) / coil else 0 := by
  rcases h2 with h2 | h2
  · subst h2
    rw [if_neg (by omega)]
  · have e : n * coil = (n - 1) * coil + coil := by grind
    by_cases hm : 0 < m
    · rw [if_pos hm]
      have a1 : (m + coil - 1) / coil < n + 1 := Int.ediv_lt_of_lt_mul (by omega) (by
        have e2 : (n + 1) * coil = n * coil + coil := by grind
        omega)
      have a2 : n ≤ (m + coil - 1) / coil := by
        rw [Int.le_ediv_iff_mul_le (by omega)]
        omega
      omega
    · rw [if_neg hm]
      by_cases hn : n = 0
      · exact hn
      · exfalso
        have : 0 ≤ (n - 1) * coil := Int.mul_nonneg (by omega) (by omega)
        omega
theorem RefB.fin {k coil : Int} {l : List Int} {f g u s n : Int} (h : RefB k coil l l.length f g u s) (hc : 1 ≤ coil) (h0 : 0 ≤ n) (h1 : s - (g * coil - u) ≤ n * coil) (h2 : n = 0 ∨ (n - 1) * coil < s - (g * coil - u)) : f + g + n = boundF k coil l := by
  have e := h.eq
  rw [List.take_length] at e
  unfold boundF
  rw [e]
  unfold bEnd
  simp only
  rw [ceil_end hc h0 h1 h2]
  by_cases t : g * coil - u < s
  · rw [if_pos (by omega), if_pos t, show s - (g * coil - u) + coil - 1 = s - (g * coil - u) + coil - 1 from rfl]
  · rw [if_neg (by omega), if_neg t]; omega
end Go.Proofs.Ythgekjkgfccnaaa

namespace Go.Proofs.Ythgekjkgfccnaaa
open Go.RowKit

theorem mul_bnd {a b A B : Int} (h1 : 0 ≤ a) (h2 : a ≤ A) (h3 : 0 ≤ b) (h4 : b ≤ B) : 0 ≤ a * b ∧ a * b ≤ A * B :=
  ⟨Int.mul_nonneg h1 h3, Int.mul_le_mul h2 h4 h3 (Int.le_trans h1 h2)⟩
/-- The coils that are counted: as many as are needed. -/
structure CSt (coil m n : Int) : Prop where
  n0 : 0 ≤ n
  lo : n = 0 ∨ (n - 1) * coil < m
theorem CSt.bnd {coil m n : Int} (h : CSt coil m n) (hc : 1 ≤ coil ∧ coil ≤ 1000000000) (hm : m ≤ 14000000000) : 0 ≤ n * coil ∧ n * coil ≤ 15000000000 ∧ n ≤ 15000000000 := by
  have h0 := h.n0
  have hp : 0 ≤ n * coil := Int.mul_nonneg h0 (by omega)
  have e : n * coil = (n - 1) * coil + coil := by grind
  have hq : n * coil ≤ 15000000000 := by
    rcases h.lo with h1 | h1
    · subst h1; simp
    · omega
  refine ⟨hp, hq, ?_⟩
  have : n * 1 ≤ n * coil := Int.mul_le_mul_of_nonneg_left hc.1 h0
  omega
theorem CSt.next {coil m n : Int} (h : CSt coil m n) (hm : n * coil < m) : CSt coil m (n + 1) := ⟨by have := h.n0; omega, .inr (by rw [show n + 1 - 1 = n by omega]; exact hm)⟩
theorem CSt.meas {coil m n : Int} (h : CSt coil m n) (hc : 1 ≤ coil) (hm : n * coil < m) : (m - (n + 1)).toNat < (m - n).toNat := by
  have : n * 1 ≤ n * coil := Int.mul_le_mul_of_nonneg_left hc h.n0
  omega

def IntB (w : World) (n : Int) (e : Ending) (w' : World) : Prop := e = .returned (.int .i64 n) ∧ Below w.heap.size w w'
set_option maxHeartbeats 4000000 in
set_option maxRecDepth 100000 in
theorem refFloor_ok (ad : Addr) (cp L : Nat) (l : List Int) (coil : Int) (w : World) (hA : Ints w (some ad) l) (hL : L = l.length) (h0 : pcErr l coil = 0) (hpos : 0 < L) :
    Calls Try.prog 21 #[.slice (some ad) L cp, .int .i64 coil] w (IntB w (floorF l coil)) := by
  obtain ⟨hl, hco, hx1, hx2⟩ := pcErr_0 h0
  have hA1 := hA.keep (below_new w (.cells #[.int .i64 0] 3))
  have hbA := below_new w (.cells #[.int .i64 0] 3)
  have ho : (w.alloc (.cells #[.int .i64 0] 3)).ownsRow w.heap.size 3 1 (.slice (some ⟨w.heap.size, 0, none⟩) 1 1) 1 (is [0]) := (Hd.of_blk (Blk.new w 3 [.int .i64 0])).owns (Nat.le_refl _) (by unfold maxLen; simp)
  obtain ⟨i0, hi, hz0, hz1, hz2⟩ := info_parts infoI
  have hLn : L ≤ 14 := by omega
  have hok := fun i h => fFold_ok (l := l) (m := l) hco hx2 i h
  have hbk := fun k => boundF_ok (k := k) hco hx2
  have hb0 := hbk 0
  have HRES : Hid (floorF l coil = fFold l coil l) := Lib.hid rfl
  have HST : Hid (fFold l coil (l.take 0) = boundF 0 coil l) := Lib.hid rfl
  have HA := Lib.hid hA
  have HA1 := Lib.hid hA1
  have HO := Lib.hid ho
  have HL := Lib.hid hL
  have HOK := Lib.hid hok
  have HBK := Lib.hid hbk
  have HX1 := Lib.hid hx1
  have HX2 := Lib.hid hx2
  have HB0 := Lib.hid hb0
  have hd0 : decide ((0 : Int) < (L : Int)) = true := by simp; omega
  have hd1 : decide (0 < L) = true := by simpa using hpos
  generalize floorF l coil = res at *
  clear hA hA1 ho hL hok hbk hx1 hx2 h0 hb0 hl
  go_enter Try.func21, Try.ntmps21
  go_wp2_with (at_builtin
               refine wpList_append_own _ rfl _ _ 30 rfl w.heap.size 3 i0 (.int .i64 0) 1 8 Try.underlying30 hi hz0 hz1 hz2 rfl (by decide) _ _ _ rfl HO.out ad L _ (is l) rfl ?c1 (vals_cells HA1.out) (is_one _) ?c4 ?c5 (by simp) ?_)
  case c1 => rw [is_len, HL.out]; omega
  case c4 => unfold maxLen; omega
  case c5 => omega
  intro v' w1 hown hgr hne
  have hv : v' ≠ .slice none 0 0 := by simpa using hne
  obtain ⟨g, cap, he, h1, hlen, hh⟩ := Hd.of_owns hown hv
  have hks : is [0] ++ is l = is (0 :: l) := by simp [is]
  rw [hks, is_len, List.length_cons, ← HL.out] at he
  rw [hks] at hh
  subst he
  have hb1 := hbA.grown hgr hbA.size (by simp [Value.ownBlock])
  have hAw := HA.out.keep hb1
  have HAW := Lib.hid hAw
  have HH := Lib.hid hh
  have HB1 := Lib.hid hb1
  clear hown hgr hne hv hlen hh hb1 hbA hks hAw
  go_wp2
  go_loop [6, 7, 8, 9, 10, 11, 12, 13, 14, 15, 16, 49, 57, 67] (fun b t _ _ _ _ _ _ _ _ _ _ _ _ => ∃ (i : Nat) (bv : Int), i ≤ L + 1 ∧ t = .int .i64 (i : Int) ∧ b = .int .i64 bv ∧ 0 ≤ bv ∧ bv ≤ 14 ∧ Hid (i = 0 → bv = 0) ∧ Hid (0 < i → fFold l coil (l.take (i - 1)) = bv)) (fun _ t _ _ _ _ _ _ _ _ _ _ _ _ => L + 1 - (intOf t).toNat)
  case atStart => exact ⟨0, 0, Nat.zero_le _, rfl, rfl, by omega, by omega, Lib.hid fun _ => rfl, Lib.hid fun h => absurd h (by omega)⟩
  case round =>
    obtain ⟨i, b, hil, rfl, rfl, hb0, hb14, HZ, HF⟩ := hrel
    by_cases hlt : i < L + 1
    · obtain ⟨k, hk⟩ : ∃ k, (0 :: l)[i]? = some k := ⟨(0 :: l)[i]'(by have := HL.out; simp; omega), List.getElem?_eq_getElem _⟩
      have hck := HH.out.cell (is_at hk)
      have hkk : 0 ≤ k ∧ k ≤ 1000000000 := by
        rcases List.mem_cons.1 (List.mem_of_getElem? hk) with h | h
        · omega
        · have := HX1.out k h; omega
      have hi15 : (i : Int) ≤ 15 := by omega
      have hdl : decide ((i : Int) < (L : Int) + 1) = true := by simp; omega
      have hnext : ∀ bk : Int, boundF k coil l = bk → (2 * k ≤ coil → fFold l coil (l.take i) = max b bk) ∧ (¬ 2 * k ≤ coil → fFold l coil (l.take i) = b) := by
        intro bk hbk
        rcases Nat.eq_zero_or_pos i with h | h
        · subst h
          have hk0 : k = 0 := by simpa using hk.symm
          have hb : b = 0 := HZ.out rfl
          subst hk0
          have := HB0.out
          rw [HST.out, hbk, hb]
          rw [hbk] at this
          constructor
          · intro _; omega
          · intro h9; omega
        · obtain ⟨j, rfl⟩ : ∃ j, i = j + 1 := ⟨i - 1, by omega⟩
          have hj : l[j]? = some k := by simpa using hk
          have := fFold_snoc (l := l) (coil := coil) hj
          have hf := HF.out (by omega)
          rw [Nat.add_sub_cancel] at hf
          rw [this, hf]
          unfold fStep
          rw [hbk]
          exact ⟨fun h => by rw [if_pos h], fun h => by rw [if_neg h]⟩
      have HNX := Lib.hid hnext
      have hdn : decide (i < L + 1) = true := by simpa using hlt
      have HKL := Lib.hid hlt
      clear hnext hk
      by_cases t1 : 2 * k ≤ coil
      · have d1 := lt_f (a := coil) (b := 2 * k) (by omega)
        go_wp2
        go_loop [9, 10, 11, 12, 13, 14, 49, 57, 67] (fun a b c d t _ _ _ _ => ∃ (j : Nat) (f g' u s : Int), j ≤ L ∧ t = .int .i64 (j : Int) ∧ a = .int .i64 f ∧ b = .int .i64 g' ∧ c = .int .i64 u ∧ d = .int .i64 s ∧ Hid (RefB k coil l j f g' u s)) (fun _ _ _ _ t _ _ _ _ => L - (intOf t).toNat)
        case atStart => exact ⟨0, 0, 0, 0, 0, Nat.zero_le _, rfl, rfl, rfl, rfl, rfl, Lib.hid (RefB.start k coil l)⟩
        case round =>
          obtain ⟨j, f, g', u, s, hj, rfl, rfl, rfl, rfl, rfl, HRB⟩ := hrel
          have hrb := HRB.out
          have b1 := hrb.f0
          have b2 := hrb.g0
          have b3 := hrb.n
          have b4 := hrb.u0
          have b5 := hrb.un
          have hbo := bFold_ok (k := k) hco HX2.out j (by have := HL.out; omega)
          rw [hrb.eq] at hbo
          have b6 := hbo.s0
          have b7 := hbo.sn
          simp only at b6 b7
          have hj14 : (j : Int) ≤ 14 := by omega
          by_cases hjl : j < L
          · obtain ⟨g2, o2, x, e2, _, hx, hcx⟩ := Ints.at_ HAW.out (i := j) (by have := HL.out; omega)
            injection e2 with e2
            subst e2
            have hxx := HX2.out x (List.mem_of_getElem? hx)
            obtain ⟨n1, n2, n3, n4⟩ := hrb.next hx hco hxx
            have HJ := Lib.hid (show j + 1 ≤ L from hjl)
            have hms := Lib.hid (show L - (j + 1) < L - j by omega)
            clear hbo hrb hx
            by_cases t2 : coil - k < x
            · have d2 := lt_t t2
              have HN := Lib.hid (n1 t2)
              clear n1 n2 n3 n4 t2
              go_wp2
              go_round
              case rel => exact ⟨j + 1, _, _, _, _, HJ.out, by go_num, rfl, rfl, rfl, rfl, HN⟩
              case measure => simp [intOf]; exact hms.out
            · have d2 := lt_f t2
              by_cases t3 : coil < 2 * x
              · have d3 := lt_t t3
                have HN := Lib.hid (n2 t2 t3)
                clear n1 n2 n3 n4 t2 t3
                go_wp2
                go_round
                case rel => exact ⟨j + 1, _, _, _, _, HJ.out, by go_num, rfl, rfl, rfl, rfl, HN⟩
                case measure => simp [intOf]; exact hms.out
              · have d3 := lt_f t3
                by_cases t4 : k ≤ x
                · have d4 := le_t t4
                  have HN := Lib.hid (n3 t2 t3 t4)
                  clear n1 n2 n3 n4 t2 t3 t4
                  go_wp2
                  go_round
                  case rel => exact ⟨j + 1, _, _, _, _, HJ.out, by go_num, rfl, rfl, rfl, rfl, HN⟩
                  case measure => simp [intOf]; exact hms.out
                · have d4 := le_f t4
                  have HN := Lib.hid (n4 t2 t3 t4)
                  clear n1 n2 n3 n4 t2 t3 t4
                  go_wp2
                  go_round
                  case rel => exact ⟨j + 1, _, _, _, _, HJ.out, by go_num, rfl, rfl, rfl, rfl, HN⟩
                  case measure => simp [intOf]; exact hms.out
          · obtain rfl : j = L := by omega
            have hrb2 : RefB k coil l l.length f g' u s := by rw [← HL.out]; exact hrb
            have hgc := mul_bnd b2 (show g' ≤ 14 by omega) (show 0 ≤ coil by omega) hco.2
            obtain ⟨P, hP⟩ : ∃ P, g' * coil = P := ⟨_, rfl⟩
            rw [hP] at hgc
            have hP1 : 0 ≤ P := hgc.1
            have hP2 : P ≤ 14000000000 := hgc.2
            have hfin := fun n h1 h2 h3 => hrb2.fin (n := n) hco.1 h1 h2 h3
            rw [hP] at hfin
            obtain ⟨m, hm⟩ : ∃ m, s - (P - u) = m := ⟨_, rfl⟩
            have hur : 0 ≤ P - u := by have := hbo.r0; rw [hP] at this; exact this
            have hm1 : m ≤ 14000000000 := by omega
            have hm2 : -14000000000 ≤ m := by omega
            rw [hm] at hfin
            have HFI := Lib.hid hfin
            clear hbo hrb hrb2 hfin hgc
            have HNX2 := HNX
            have HLT := Lib.hid hlt
            have hfg : f + g' ≤ 14 := by omega
            have D2 := Lib.hid t1
            clear hlt t1 b3 b5 b7
            go_wp2
            go_loop [16] (fun t => ∃ n : Int, t = .int .i64 n ∧ Hid (CSt coil m n) ∧ 0 ≤ n ∧ n ≤ 15000000000) (fun t => (m - intOf t).toNat)
            case atStart => exact ⟨0, rfl, Lib.hid ⟨by omega, .inl rfl⟩, by omega, by omega⟩
            case round =>
              obtain ⟨n, rfl, HC, hn0, hn1⟩ := hrel
              obtain ⟨q0, q1, q2⟩ := HC.out.bnd hco hm1
              obtain ⟨Q, hQ⟩ : ∃ Q, n * coil = Q := ⟨_, rfl⟩
              rw [hQ] at q0 q1
              by_cases t5 : Q < m
              · have hnx := HC.out.next (by rw [hQ]; exact t5)
                have hms := HC.out.meas hco.1 (by rw [hQ]; exact t5)
                have hb2 := (hnx.bnd hco hm1).2.2
                have HX := Lib.hid hnx
                have HM := Lib.hid hms
                have HB2 := Lib.hid hb2
                have hn2 : 0 ≤ n + 1 := by omega
                have d5 := lt_t t5
                clear hnx hms hb2 t5
                go_wp2
                go_round
                case rel => exact ⟨n + 1, rfl, HX, hn2, HB2.out⟩
                case measure => simp [intOf]; have := HM.out; omega
              · have hb := HFI.out n hn0 (by rw [hQ]; omega) HC.out.lo
                obtain ⟨k1, k2⟩ := HNX2.out _ rfl
                have k3 := k1 D2.out
                have hbb := HBK.out k
                rw [← hb, max_if] at k3
                rw [← hb] at hbb
                have K3 := Lib.hid k3
                have hbL : (if b < f + g' + n then f + g' + n else b) ≤ 14 := by have := HL.out; split <;> omega
                have hb0L : 0 ≤ (if b < f + g' + n then f + g' + n else b) := by split <;> omega
                have KL := Lib.hid hbL
                have KL0 := Lib.hid hb0L
                have d5 := lt_f t5
                have hiL := Lib.hid (show i + 1 ≤ j + 1 from HLT.out)
                have hMS := Lib.hid (show j + 1 - (i + 1) < j + 1 - i by have := HLT.out; omega)
                clear hb k1 k2 k3 hbb hbL hb0L t5
                go_wp2
                go_round
                case rel => exact ⟨i + 1, _, hiL.out, by go_num, rfl, KL0.out, KL.out, Lib.hid fun h => absurd h (by omega), Lib.hid fun _ => by rw [Nat.add_sub_cancel]; exact K3.out⟩
                case measure => simp [intOf]; have := hMS.out; omega
      · have d1 := lt_t (a := coil) (b := 2 * k) (by omega)
        obtain ⟨k1, k2⟩ := HNX.out _ rfl
        have K3 := Lib.hid (k2 t1)
        have hiL := Lib.hid (show i + 1 ≤ L + 1 from hlt)
        have hMS := Lib.hid (show L + 1 - (i + 1) < L + 1 - i by omega)
        clear k1 k2 t1
        go_wp2
        go_round
        case rel => exact ⟨i + 1, _, hiL.out, by go_num, rfl, hb0, hb14, Lib.hid fun h => absurd h (by omega), Lib.hid fun _ => by rw [Nat.add_sub_cancel]; exact K3.out⟩
        case measure => simp [intOf]; have := hMS.out; omega
    · obtain rfl : i = L + 1 := by omega
      have hres : res = b := by
        have := HF.out (by omega)
        rw [Nat.add_sub_cancel, HL.out, List.take_length] at this
        rw [← this]; exact HRES.out
      have HR := Lib.hid hres
      clear hres
      go_wp2
      go_ret
      exact ⟨by rw [HR.out]; rfl, HB1.out⟩
end Go.Proofs.Ythgekjkgfccnaaa
