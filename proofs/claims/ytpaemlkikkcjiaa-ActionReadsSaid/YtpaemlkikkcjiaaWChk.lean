/- Which regulations are valid. -/
import Derived.Test.YtpaemlkikkcjiaaACl
namespace Go.Proofs.Ytpaemlkikkcjiaa
open Go.RowKit

def inB (v lo hi : Int) : Bool := decide (lo ≤ v) && decide (v ≤ hi)
theorem inB_t {v lo hi : Int} (h : inB v lo hi = true) : lo ≤ v ∧ v ≤ hi := by simpa [inB] using h
theorem within_any (v lo hi : Int) (w : World) : Calls Try.prog 61 #[.int .i64 v, .int .i64 lo, .int .i64 hi] w fun e w' => e = .returned (.bool (inB v lo hi)) ∧ w = w' := by
  unfold inB
  by_cases h : lo ≤ v
  · have hd : decide (lo ≤ v) = true := by simpa using h
    go_enter Try.func61, Try.ntmps61
    go_wp2
    go_ret
    exact ⟨by simp [h], rfl⟩
  · have hd : decide (lo ≤ v) = false := by simpa using h
    go_enter Try.func61, Try.ntmps61
    go_wp2
    go_ret
    exact ⟨by simp, rfl⟩
theorem in_any (v lo hi : Int) (w : World) : Calls Try.prog 59 #[.int .i64 v, .int .i64 lo, .int .i64 hi] w fun e w' => e = .returned (.bool (inB v lo hi)) ∧ w = w' := by
  unfold inB
  by_cases h : lo ≤ v
  · have hd : decide (lo ≤ v) = true := by simpa using h
    go_enter Try.func59, Try.ntmps59
    go_wp2
    go_ret
    exact ⟨by simp [h], rfl⟩
  · have hd : decide (lo ≤ v) = false := by simpa using h
    go_enter Try.func59, Try.ntmps59
    go_wp2
    go_ret
    exact ⟨by simp, rfl⟩

def okB (n : Int) (t : T3) : Bool := inB t.a (-1) (n - 1) && (inB t.b (-1) (n - 1) && inB t.l (-1000000) 1000000)
def regB (n : Int) (ts : List T3) : Bool := inB n 1 64 && (decide (ts.length ≤ 512) && ts.all (okB n))
theorem all_take_succ {α : Type} {f : α → Bool} {l : List α} {k : Nat} {x : α} (h : (l.take k).all f = true) (hx : l[k]? = some x) (hf : f x = true) : (l.take (k + 1)).all f = true := by
  have : l.take (k + 1) = l.take k ++ [x] := by rw [List.take_add_one, hx]; rfl
  rw [this, List.all_append, h]
  simp [hf]
theorem all_bad {α : Type} {f : α → Bool} {l : List α} {k : Nat} {x : α} (hx : l[k]? = some x) (hf : f x = false) : l.all f = false := by
  cases h : l.all f
  · rfl
  · have := List.all_eq_true.1 h x (List.mem_of_getElem? hx)
    rw [hf] at this; cases this
theorem regB_ok {n : Int} {ts : List T3} (h : regB n ts = true) : ∃ k : Nat, n = (k : Int) ∧ 1 ≤ k ∧ k ≤ 64 ∧ ts.length ≤ 512 ∧ OkL k 1000000 ts := by
  unfold regB at h
  simp only [Bool.and_eq_true, decide_eq_true_eq] at h
  obtain ⟨h1, h2, h3⟩ := h
  have h1 := inB_t h1
  refine ⟨n.toNat, by omega, by omega, by omega, h2, fun t ht => ?_⟩
  have := List.all_eq_true.1 h3 t ht
  unfold okB at this
  simp only [Bool.and_eq_true] at this
  obtain ⟨a1, a2, a3⟩ := this
  have a1 := inB_t a1
  have a2 := inB_t a2
  have a3 := inB_t a3
  refine ⟨?_, ?_, ?_, ?_, ?_, ?_⟩ <;> omega

set_option maxHeartbeats 1000000 in
set_option maxRecDepth 100000 in
theorem isReg_any (n : Int) (A : Option Addr) (c L : Nat) (ts : List T3) (w : World) (hA : TiesAt w A ts) (hL : L = ts.length) (hn : -9223372036854775808 ≤ n ∧ n ≤ 9223372036854775807) (hLs : L ≤ 1000000) :
    Calls Try.prog 54 #[.int .i64 n, .slice A L c] w fun e w' => e = .returned (.bool (regB n ts)) ∧ Below w.heap.size w w' := by
  cases h1 : inB n 1 64 with
  | false =>
    have he : regB n ts = false := by unfold regB; rw [h1]; rfl
    rw [he]
    clear hL he hA
    go_enter Try.func54, Try.ntmps54
    go_wp2_with (go_at_call 61; refine (within_any _ _ _ _).mono ?_; rintro e w1 ⟨rfl, rfl⟩)
    go_ret
    exact ⟨rfl, Below.refl _ _⟩
  | true =>
    have hn2 := inB_t h1
    by_cases h2 : 512 < L
    · have he : regB n ts = false := by unfold regB; rw [h1, ← hL]; simp; omega
      have hd : decide (512 < L) = true := by simpa using h2
      have hd2 : decide ((512 : Int) < (L : Int)) = true := by simp; omega
      rw [he]
      clear hL he hA h2
      go_enter Try.func54, Try.ntmps54
      go_wp2_with (go_at_call 61; refine (within_any _ _ _ _).mono ?_; rintro e w1 ⟨rfl, rfl⟩)
      go_ret
      exact ⟨rfl, Below.refl _ _⟩
    · have heq : regB n ts = ts.all (okB n) := by unfold regB; rw [h1, ← hL]; simp; omega
      have hd : decide (512 < L) = false := by simpa using h2
      have hd2 : decide ((512 : Int) < (L : Int)) = false := by simp; omega
      have hwn : IntKind.i64.wrap (n - 1) = n - 1 := wrapI (by omega) (by omega)
      have HE := Lib.hid heq
      have HL := Lib.hid hL
      have HA := Lib.hid hA
      clear heq hL hA h2
      go_enter Try.func54, Try.ntmps54
      go_wp2_with (go_at_call 61; refine (within_any _ _ _ _).mono ?_; rintro e w1 ⟨rfl, rfl⟩)
      clear h1 hd hd2
      go_loopw [6, 17] (fun _ t wr => ∃ i : Nat, i ≤ L ∧ t = .int .i64 (i : Int) ∧ Hid ((ts.take i).all (okB n) = true) ∧ Below w.heap.size w wr) (fun _ t _ => L - (intOf t).toNat)
      case atStart => exact ⟨0, Nat.zero_le _, rfl, Lib.hid (by simp), Below.refl _ _⟩
      case round =>
        obtain ⟨i, hi, rfl, HAL, hb⟩ := hrel
        by_cases hlt : i < L
        · obtain ⟨t, ht⟩ : ∃ t, ts[i]? = some t := ⟨ts[i]'(by have := HL.out; omega), List.getElem?_eq_getElem _⟩
          obtain ⟨g, off, rfl, hg, c0, c1, c2⟩ := (HA.out.keep hb).at_ ht
          have HT := Lib.hid ht
          clear ht
          have hq : Blk 39 (wr.alloc (.cells #[.int .i64 t.a, .int .i64 t.b, .int .i64 t.l] 39)) wr.heap.size [.int .i64 t.a, .int .i64 t.b, .int .i64 t.l] := Blk.new wr 39 _
          have hb2 := below_on hb hb.size (below_new wr (.cells #[.int .i64 t.a, .int .i64 t.b, .int .i64 t.l] 39))
          obtain ⟨ta, tb, tl⟩ := t
          simp only at c0 c1 c2 hq hb2
          go_wp2_with (fail)
          clear c0 c1 c2
          have d0 := hq.cell 0
          have d1 := hq.cell 1
          have d2 := hq.cell 2
          simp only [List.getElem?_cons_zero, List.getElem?_cons_succ] at d0 d1 d2
          generalize wr.alloc (.cells #[.int .i64 ta, .int .i64 tb, .int .i64 tl] 39) = W at *
          generalize wr.heap.size = q at *
          have hbad : okB n ⟨ta, tb, tl⟩ = false → regB n ts = false := fun h => by rw [HE.out]; exact all_bad HT.out h
          have hgood : okB n ⟨ta, tb, tl⟩ = true → (ts.take (i + 1)).all (okB n) = true := fun h => all_take_succ HAL.out HT.out h
          unfold okB at hbad hgood
          simp only at hbad hgood
          have HBD := Lib.hid hbad
          have HGD := Lib.hid hgood
          clear hbad hgood hq
          cases f1 : inB ta (-1) (n - 1) with
          | false =>
            have he : regB n ts = false := HBD.out (by rw [f1]; rfl)
            have HE2 := Lib.hid he
            clear he
            go_wp2_with (go_at_call 61; refine (within_any _ _ _ _).mono ?_; rintro e w1 ⟨rfl, rfl⟩)
            go_ret
            exact ⟨by rw [HE2.out]; rfl, hb2⟩
          | true =>
            cases f2 : inB tb (-1) (n - 1) with
            | false =>
              have he : regB n ts = false := HBD.out (by rw [f1, f2]; rfl)
              have HE2 := Lib.hid he
              clear he
              go_wp2_with (go_at_call 61; refine (within_any _ _ _ _).mono ?_; rintro e w1 ⟨rfl, rfl⟩)
              go_ret
              exact ⟨by rw [HE2.out]; rfl, hb2⟩
            | true =>
              cases f3 : inB tl (-1000000) 1000000 with
              | false =>
                have he : regB n ts = false := HBD.out (by rw [f1, f2, f3]; rfl)
                have HE2 := Lib.hid he
                clear he
                go_wp2_with (go_at_call 61; refine (within_any _ _ _ _).mono ?_; rintro e w1 ⟨rfl, rfl⟩)
                go_ret
                exact ⟨by rw [HE2.out]; rfl, hb2⟩
              | true =>
                have HN := Lib.hid (HGD.out (by rw [f1, f2, f3]; rfl))
                go_wp2_with (go_at_call 61; refine (within_any _ _ _ _).mono ?_; rintro e w1 ⟨rfl, rfl⟩)
                go_roundw
                case rel => exact ⟨i + 1, by omega, by go_num, HN, hb2⟩
                case measure => simp [intOf]; omega
        · obtain rfl : i = L := by omega
          have he : regB n ts = true := by
            have h3 := HAL.out
            rw [HL.out, List.take_length] at h3
            rw [HE.out]; exact h3
          have HE2 := Lib.hid he
          clear he
          go_wp2
          go_ret
          exact ⟨by rw [HE2.out]; rfl, hb⟩
end Go.Proofs.Ytpaemlkikkcjiaa
