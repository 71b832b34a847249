/- Clash. -/
import Derived.Test.YtpaemlkikkcjiaaWCir
import Derived.Test.YtpaemlkikkcjiaaWReg
namespace Go.Proofs.Ytpaemlkikkcjiaa
open Go.RowKit

/-- The indexes of a clash, in the order of their direction. -/
def claF (P : List Te) (by_ : Nat → Nat) (q n m : Nat) : Nat → Int := fun j => (by_ (bck P by_ (bck P by_ q (n + 1)) (m - 1 - j)) : Int)
def ClaPost (n : Int) (ts : List T3) (w : World) (e : Ending) (w' : World) : Prop :=
  Below w.heap.size w w' ∧ ((regB n ts = false ∧ e = .returned (.tuple #[.slice none 0 0, .int .i64 1])) ∨
    ∃ k : Nat, n = (k : Int) ∧ regB n ts = true ∧ (1 ≤ k ∧ k ≤ 64) ∧ OkL k 1000000 ts ∧
      (((∃ x, Least k ts x) ∧ e = .returned (.tuple #[.slice none 0 0, .int .i64 6])) ∨
       ((∀ x, ¬ Sol k ts x) ∧ ∃ q by_ m g cap, Way k (teL (allT k ts)) by_ q m ∧ e = .returned (.tuple #[.slice (some ⟨g, 0, none⟩) m cap, .int .i64 0]) ∧
         Vals w' (some ⟨g, 0, none⟩) (fl (claF (teL (allT k ts)) by_ q k m) m))))

set_option maxHeartbeats 2000000 in
set_option maxRecDepth 100000 in
theorem clash_any (n : Int) (ad : Addr) (c L : Nat) (ts : List T3) (w : World) (hA : TiesAt w (some ad) ts) (hL : L = ts.length) (hn : -9223372036854775808 ≤ n ∧ n ≤ 9223372036854775807) (hLs : L ≤ 1000) :
    Calls Try.prog 31 #[.int .i64 n, .slice (some ad) L c] w (ClaPost n ts w) := by
  have hck := isReg_any n (some ad) c L ts w hA hL hn (by omega)
  cases hr : regB n ts with
  | false =>
    rw [hr] at hck
    have HC := Lib.hid hck
    have HR := Lib.hid hr
    clear hck hr hA hL
    go_enter Try.func31, Try.ntmps31
    go_wp2_with (go_at_call 54; refine (HC.out).mono ?_; rintro e w1 ⟨rfl, hb⟩)
    go_ret2
    exact ⟨hb, .inl ⟨HR.out, rfl⟩⟩
  | true =>
    obtain ⟨k, rfl, h1, h2, h3, ho⟩ := regB_ok hr
    rw [hr] at hck
    have hfl := fun W (hW : Below w.heap.size w W) => withFloor_any k L c ad ts W (hA.keep hW) hL h2 (by omega)
    have HC := Lib.hid hck
    have HR := Lib.hid hr
    have HF := Lib.hid hfl
    have HO := Lib.hid ho
    have hlen : (allT k ts).length = L + k := by rw [allT_len, hL]
    have hL5 : L ≤ 512 := by omega
    have HL := Lib.hid hlen
    clear hck hr hA hL hfl hlen
    go_enter Try.func31, Try.ntmps31
    go_wp2_with (first
      | (go_at_call 54; refine (HC.out).mono ?_; rintro e w1 ⟨rfl, hb1⟩)
      | (go_at_call 56; refine (HF.out _ hb1).mono ?_; rintro e w2 ⟨v, rfl, hv, hb2⟩
         obtain ⟨gt, cap, rfl, hgB, hgw, hcap, hvals⟩ := hv.vals
         have hbb := below_on hb1 hb1.size hb2
         have HNR := Lib.hid (newRaising_any w.heap.size k (L + k) gt cap (allT k ts) w2 hvals HL.out.symm h2 (by have := hb1.size; omega) hgw (by have := hbb.size; omega))
         clear hvals hv))
    refine (HNR.out).mono ?_
    rintro e w3 ⟨p, gh, gb, rfl, hm, hb3⟩
    have hbc := below_on hbb hbb.size hb3
    have HST := Lib.hid (settle_any w.heap.size w3 p gt cap gh gb k (allT k ts) 1000000 hm hbc.size (okL_all HO.out (by omega)) (by omega) h2 (by omega) (by rw [HL.out]; omega))
    clear hm
    go_wp2_with (go_at_call 57; refine (HST.out).mono ?_; intro e w4 hset; have hb4 := hbc.trans hset.1; rcases set_cases hset HO.out (by omega) with ⟨h', by_, rfl, hm, hle, hxc⟩ | ⟨q, h', by_, m, rfl, hm, hno, hway⟩)
    · clear hset hxc
      go_wp2
      go_ret2
      exact ⟨hb4, .inr ⟨k, rfl, HR.out, ⟨h1, h2⟩, HO.out, .inl ⟨⟨_, hle⟩, rfl⟩⟩⟩
    · have hq : ((q : Int) - 1 == -2) = false := by simp; omega
      have hci := circle_any w.heap.size w4 p gt cap gh gb k q m (allT k ts) h' by_ 1000000 hm (okL_all HO.out (by omega)) hway h2 (by rw [HL.out]; omega)
      have HCI := Lib.hid hci
      have HWAY := Lib.hid hway
      clear hset hm hci hway
      go_wp2_with (go_at_call 63; refine (HCI.out).mono ?_; rintro e w5 ⟨g, cap5, rfl, hv5, hb5⟩)
      go_ret2
      exact ⟨below_on hb4 hb4.size hb5, .inr ⟨k, rfl, HR.out, ⟨h1, h2⟩, HO.out, .inr ⟨hno, q, by_, m, g, cap5, HWAY.out, rfl, hv5⟩⟩⟩

theorem clash_bad (n : Int) (ad : Addr) (c L : Nat) (ts : List T3) (w : World) (hA : TiesAt w (some ad) ts) (hL : L = ts.length) (hn : -9223372036854775808 ≤ n ∧ n ≤ 9223372036854775807) (hLs : L ≤ 1000) (hr : regB n ts = false) :
    Calls Try.prog 31 #[.int .i64 n, .slice (some ad) L c] w fun e w' => e = .returned (.tuple #[.slice none 0 0, .int .i64 1]) ∧ Below w.heap.size w w' := by
  refine (clash_any n ad c L ts w hA hL hn hLs).mono ?_
  rintro e w' ⟨hb, ⟨_, rfl⟩ | ⟨k, _, h, _⟩⟩
  · exact ⟨rfl, hb⟩
  · rw [hr] at h; cases h
theorem clash_least (k : Nat) (ad : Addr) (c L : Nat) (ts : List T3) (x : Nat → Int) (w : World) (hA : TiesAt w (some ad) ts) (hL : L = ts.length) (hLs : L ≤ 1000) (hr : regB (k : Int) ts = true) (hk : k ≤ 64) (hx : Least k ts x) :
    Calls Try.prog 31 #[.int .i64 (k : Int), .slice (some ad) L c] w fun e w' => e = .returned (.tuple #[.slice none 0 0, .int .i64 6]) ∧ Below w.heap.size w w' := by
  refine (clash_any k ad c L ts w hA hL (by omega) hLs).mono ?_
  rintro e w' ⟨hb, ⟨h, _⟩ | ⟨j, hj, _, _, _, ⟨_, rfl⟩ | ⟨hno, _⟩⟩⟩
  · rw [hr] at h; cases h
  · exact ⟨rfl, hb⟩
  · obtain rfl : j = k := by omega
    exact absurd hx.sol (hno x)
theorem clash_none (k : Nat) (ad : Addr) (c L : Nat) (ts : List T3) (w : World) (hA : TiesAt w (some ad) ts) (hL : L = ts.length) (hLs : L ≤ 1000) (hr : regB (k : Int) ts = true) (hk : k ≤ 64) (hx : ∀ x, ¬ Sol k ts x) :
    Calls Try.prog 31 #[.int .i64 (k : Int), .slice (some ad) L c] w fun e w' => ∃ q by_ m g cap, e = .returned (.tuple #[.slice (some ⟨g, 0, none⟩) m cap, .int .i64 0]) ∧ Way k (teL (allT k ts)) by_ q m ∧
      Vals w' (some ⟨g, 0, none⟩) (fl (claF (teL (allT k ts)) by_ q k m) m) ∧ Below w.heap.size w w' := by
  refine (clash_any k ad c L ts w hA hL (by omega) hLs).mono ?_
  rintro e w' ⟨hb, ⟨h, _⟩ | ⟨j, hj, _, _, _, ⟨⟨x, h⟩, _⟩ | ⟨_, q, by_, m, g, cap, hw, rfl, hv⟩⟩⟩
  · rw [hr] at h; cases h
  · obtain rfl : j = k := by omega
    exact absurd h.sol (hx x)
  · obtain rfl : j = k := by omega
    exact ⟨q, by_, m, g, cap, rfl, hw, hv, hb⟩
end Go.Proofs.Ytpaemlkikkcjiaa
