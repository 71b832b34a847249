/- Regulate; the reference's Check. -/
import Derived.Test.YtpaemlkikkcjiaaWSet
import Derived.Test.YtpaemlkikkcjiaaWChk
namespace Go.Proofs.Ytpaemlkikkcjiaa
open Go.RowKit

def RegPost (n : Int) (ts : List T3) (w : World) (e : Ending) (w' : World) : Prop :=
  Below w.heap.size w w' ∧ ((regB n ts = false ∧ e = .returned (.tuple #[.slice none 0 0, .int .i64 1])) ∨
    ∃ k : Nat, n = (k : Int) ∧ regB n ts = true ∧ (1 ≤ k ∧ k ≤ 64) ∧ OkL k 1000000 ts ∧
      ((∃ x v, Least k ts x ∧ (∀ i, x i ≤ 1000000000000000) ∧ e = .returned (.tuple #[v, .int .i64 0]) ∧ OwnR w.heap.size 3 1 w' v k (fl x k)) ∨
       ((∀ x, ¬ Sol k ts x) ∧ e = .returned (.tuple #[.slice none 0 0, .int .i64 6]))))

/-- The way back from a place: the ties by which places were raised. -/
structure Way (n : Nat) (P : List Te) (by_ : Nat → Nat) (q m : Nat) : Prop where
  le : m ≤ n + 1
  circ : Circ P by_ (bck P by_ q (n + 1)) m
  tie : ∀ j, ∃ t, P[by_ (bck P by_ q j)]? = some t ∧ t.b = bck P by_ q j ∧ t.a = bck P by_ q (j + 1)
  low : q ≤ n
/-- What settle leaves, said of solutions. -/
theorem set_cases {B : Nat} {w : World} {p gt ct gh gb n : Nat} {ts : List T3} {M : Int} {e : Ending} {w' : World} (h : SetPost B w p gt ct gh gb n (allT n ts) e w') (ho : OkL n M ts) (hM : 0 ≤ M) :
    (∃ h' by_, e = .returned (.int .i64 (-2)) ∧ RaM B w' p gt ct gh gb n (allT n ts) h' by_ ∧ Least n ts (fun i => h' (i + 1)) ∧ ∀ p, h' p ≤ ((n + 1 : Nat) : Int) * ((allT n ts).length * M)) ∨
    (∃ (q : Nat) (h' : Nat → Int) (by_ : Nat → Nat) (m : Nat), e = .returned (.int .i64 ((q : Int) - 1)) ∧ RaM B w' p gt ct gh gb n (allT n ts) h' by_ ∧ (∀ x, ¬ Sol n ts x) ∧ Way n (teL (allT n ts)) by_ q m) := by
  obtain ⟨_, k, hk, rfl, hm, hor⟩ := h
  cases hr : (rnds (teL (allT n ts)) (k + 1)).r with
  | none =>
    left
    refine ⟨_, _, rfl, hm, (prog_least ho hM hr).2, fun p => ?_⟩
    have hcap := rnds_cap hM (te_bounds (okL_all ho hM)).2.2 (k + 1) p
    rw [teL_len] at hcap
    have h2 : ((k + 1 : Nat) : Int) * ((allT n ts).length * M) ≤ ((n + 1 : Nat) : Int) * ((allT n ts).length * M) := Int.mul_le_mul_of_nonneg_right (by omega) (Int.mul_nonneg (by omega) hM)
    exact Int.le_trans hcap h2
  | some q =>
    right
    rw [hr] at hor
    obtain rfl : k = n := by rcases hor with h | h; cases h; exact h
    obtain ⟨⟨m, h1, h2⟩, h3, h4, h5⟩ := prog_none ho hM hr
    exact ⟨q, _, _, m, rfl, hm, h3, h1, h2, h4, h5⟩

set_option maxHeartbeats 2000000 in
set_option maxRecDepth 100000 in
theorem regulate_any (n : Int) (ad : Addr) (c L : Nat) (ts : List T3) (w : World) (hA : TiesAt w (some ad) ts) (hL : L = ts.length) (hn : -9223372036854775808 ≤ n ∧ n ≤ 9223372036854775807) (hLs : L ≤ 1000) :
    Calls Try.prog 24 #[.int .i64 n, .slice (some ad) L c] w (RegPost n ts w) := by
  have hck := isReg_any n (some ad) c L ts w hA hL hn (by omega)
  cases hr : regB n ts with
  | false =>
    rw [hr] at hck
    have HC := Lib.hid hck
    have HR := Lib.hid hr
    clear hck hr hA hL
    go_enter Try.func24, Try.ntmps24
    go_wp2_with (go_at_call 54; refine (HC.out).mono ?_; rintro e w1 ⟨rfl, hb⟩)
    go_ret2
    exact ⟨hb, .inl ⟨HR.out, rfl⟩⟩
  | true =>
    obtain ⟨k, rfl, h1, h2, h3, ho⟩ := regB_ok hr
    rw [hr] at hck
    have hfl := fun W (hW : Below w.heap.size w W) => withFloor_any k L c ad ts W (hA.keep hW) hL h2 (by omega)
    have HC := Lib.hid hck
    have HR := Lib.hid hr
    have HF := Lib.hid hfl
    have HO := Lib.hid ho
    have hlen : (allT k ts).length = L + k := by rw [allT_len, hL]
    have hL5 : L ≤ 512 := by omega
    have HL := Lib.hid hlen
    clear hck hr hA hL hfl hlen
    go_enter Try.func24, Try.ntmps24
    go_wp2_with (first
      | (go_at_call 54; refine (HC.out).mono ?_; rintro e w1 ⟨rfl, hb1⟩)
      | (go_at_call 56; refine (HF.out _ hb1).mono ?_; rintro e w2 ⟨v, rfl, hv, hb2⟩
         obtain ⟨gt, cap, rfl, hgB, hgw, hcap, hvals⟩ := hv.vals
         have hbb := below_on hb1 hb1.size hb2
         have HNR := Lib.hid (newRaising_any w.heap.size k (L + k) gt cap (allT k ts) w2 hvals HL.out.symm h2 (by have := hb1.size; omega) hgw (by have := hbb.size; omega))
         clear hvals hv))
    refine (HNR.out).mono ?_
    rintro e w3 ⟨p, gh, gb, rfl, hm, hb3⟩
    have hbc := below_on hbb hbb.size hb3
    have HST := Lib.hid (settle_any w.heap.size w3 p gt cap gh gb k (allT k ts) 1000000 hm hbc.size (okL_all HO.out (by omega)) (by omega) h2 (by omega) (by rw [HL.out]; omega))
    clear hm
    go_wp2_with (go_at_call 57; refine (HST.out).mono ?_; intro e w4 hset; have hb4 := hbc.trans hset.1; rcases set_cases hset HO.out (by omega) with ⟨h', by_, rfl, hm, hle, hxc⟩ | ⟨q, h', by_, m, rfl, hm, hno, hway⟩)
    · have hxb : ∀ p, h' p ≤ 1000000000000000 := by
        intro p
        have h0 := hxc p
        rw [HL.out] at h0
        have h2 : ((k + 1 : Nat) : Int) * ((L + k : Nat) * 1000000) ≤ 65 * ((L + k : Nat) * 1000000) := Int.mul_le_mul_of_nonneg_right (by omega) (by omega)
        omega
      have HXB := Lib.hid hxb
      clear hxc hxb
      have hht := heights_any w.heap.size w4 p gt cap gh gb k (allT k ts) h' by_ hm h2 h1
      have HH := Lib.hid hht
      have HLE := Lib.hid hle
      clear hht hle hset hm
      go_wp2_with (go_at_call 58; refine (HH.out).mono ?_; rintro e w5 ⟨v, rfl, hv, hb5⟩)
      go_ret2
      have hv' : OwnR w.heap.size 3 1 w5 v k (fl (fun i => h' (i + 1)) k) := by
        obtain ⟨g, cap, e, h1, h3, h4, h5, h6⟩ := hv
        exact ⟨g, cap, e, by have := hb4.size; omega, h3, h4, h5, h6⟩
      exact ⟨below_on hb4 hb4.size hb5, .inr ⟨k, rfl, HR.out, ⟨h1, h2⟩, HO.out, .inl ⟨_, _, HLE.out, fun i => HXB.out (i + 1), rfl, hv'⟩⟩⟩
    · have hq : ((q : Int) - 1 != -2) = true := by simp; omega
      clear hset
      go_wp2
      go_ret2
      exact ⟨hb4, .inr ⟨k, rfl, HR.out, ⟨h1, h2⟩, HO.out, .inr ⟨hno, rfl⟩⟩⟩
end Go.Proofs.Ytpaemlkikkcjiaa
