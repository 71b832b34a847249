/- Highest. -/
import Derived.Test.YtpaemlkikkcjiaaWTop
namespace Go.Proofs.Ytpaemlkikkcjiaa
open Go.RowKit

theorem hd_setI {T : TypeId} {W : World} {g cap k i : Nat} {f : Nat → Int} (h : Hd T W g cap (fl f k)) (hi : i < k) (x : Int) : Hd T (W.setCell ⟨g, i, none⟩ (.int .i64 x)) g cap (fl (upd f i x) k) := by
  obtain ⟨rest, hl, hb⟩ := h
  refine ⟨rest, by rw [fl_len] at hl ⊢; exact hl, ?_⟩
  have h1 := hb.set i (.int .i64 x)
  rw [List.set_append_left _ _ (by rw [fl_len]; exact hi), fl_set] at h1
  exact h1
def HiPost (n : Int) (ts : List T3) (top : Int) (w : World) (e : Ending) (w' : World) : Prop :=
  Below w.heap.size w w' ∧ (((regB n ts = false ∨ inB top 0 1000000 = false) ∧ e = .returned (.tuple #[.slice none 0 0, .int .i64 1])) ∨
    ∃ k : Nat, n = (k : Int) ∧ regB n ts = true ∧ (0 ≤ top ∧ top ≤ 1000000) ∧ (1 ≤ k ∧ k ≤ 64) ∧ OkL k 1000000 ts ∧
      ((∃ x g cap, Great k ts top x ∧ e = .returned (.tuple #[.slice (some ⟨g, 0, none⟩) k cap, .int .i64 0]) ∧ Vals w' (some ⟨g, 0, none⟩) (fl x k)) ∨
       ((∀ x, ¬ SolT k ts top x) ∧ e = .returned (.tuple #[.slice none 0 0, .int .i64 6]))))
theorem inB_ok {x a b : Int} (h : inB x a b = true) : a ≤ x ∧ x ≤ b := by unfold inB at h; simpa using h
set_option maxHeartbeats 4000000 in
set_option maxRecDepth 100000 in
theorem highest_any (n : Int) (ad : Addr) (c L : Nat) (ts : List T3) (top : Int) (w : World) (hA : TiesAt w (some ad) ts) (hL : L = ts.length) (hn : -9223372036854775808 ≤ n ∧ n ≤ 9223372036854775807) (ht : -9223372036854775808 ≤ top ∧ top ≤ 9223372036854775807) (hLs : L ≤ 1000) :
    Calls Try.prog 29 #[.int .i64 n, .slice (some ad) L c, .int .i64 top] w (HiPost n ts top w) := by
  have hck := isReg_any n (some ad) c L ts w hA hL hn (by omega)
  cases hr : regB n ts with
  | false =>
    rw [hr] at hck
    have HC := Lib.hid hck
    have HR := Lib.hid hr
    clear hck hr hA hL
    go_enter Try.func29, Try.ntmps29
    go_wp2_with (go_at_call 54; refine (HC.out).mono ?_; rintro e w1 ⟨rfl, hb⟩)
    go_ret2
    exact ⟨hb, .inl ⟨.inl HR.out, rfl⟩⟩
  | true =>
    rw [hr] at hck
    cases hi : inB top 0 1000000 with
    | false =>
      have hwi := within_any top 0 1000000
      rw [hi] at hwi
      have HC := Lib.hid hck
      have HW := Lib.hid hwi
      have HI := Lib.hid hi
      clear hck hr hA hL hwi hi
      go_enter Try.func29, Try.ntmps29
      go_wp2_with (first
        | (go_at_call 54; refine (HC.out).mono ?_; rintro e w1 ⟨rfl, hb⟩)
        | (go_at_call 61; refine (HW.out _).mono ?_; rintro e w2 ⟨rfl, rfl⟩))
      go_ret2
      exact ⟨hb, .inl ⟨.inr HI.out, rfl⟩⟩
    | true =>
      have hwi := within_any top 0 1000000
      rw [hi] at hwi
      obtain ⟨t0, t1⟩ := inB_ok hi
      obtain ⟨k, rfl, h1, h2, h3, ho⟩ := regB_ok hr
      have hlen : (allT k ts).length = L + k := by rw [allT_len, hL]
      have hltop : (topT k ts top).length = L + k := by rw [topT_len, hL]
      have hltop2 : (allT k (topT k ts top)).length = L + k + k := by rw [allT_len, hltop]
      have hoa := okL_all ho (by omega)
      have hot := okT_top ho (by omega) t0 t1
      have hLs2 : L ≤ 512 := by omega
      have HC := Lib.hid hck
      have HW := Lib.hid hwi
      have HR := Lib.hid hr
      have HF := Lib.hid (fun W (hW : Below w.heap.size w W) => withFloor_any k L c ad ts W (hA.keep hW) hL h2 (by omega))
      have HO := Lib.hid ho
      have HOT := Lib.hid hot
      have HOA := Lib.hid hoa
      have HL1 := Lib.hid hlen
      have HL2 := Lib.hid hltop
      have HL3 := Lib.hid hltop2
      clear hck hr hA hL hwi hi hlen hltop hltop2 hoa hot ho h3
      go_enter Try.func29, Try.ntmps29
      go_upto_region 3 with (first | (go_at_call 54; refine (HC.out).mono ?_; rintro e w1 ⟨rfl, hb1⟩) | (go_at_call 61; refine (HW.out _).mono ?_; rintro e w2 ⟨rfl, rfl⟩))
      have HFT := Lib.hid (fun g3 cap3 (w3 : World) (hv : Vals w3 (some ⟨g3, 0, none⟩) (tc (allT k ts))) => fromTop_any ⟨g3, 0, none⟩ cap3 (L + k) (allT k ts) top w3 hv HL1.out.symm (by omega) t0 t1 (fun t ht => by obtain ⟨_, _, _, _, q1, q2⟩ := HOA.out t ht; exact ⟨q1, q2⟩))
      have HWF := Lib.hid (fun g4 (w4 : World) (hv : Vals w4 (some ⟨g4, 0, none⟩) (tc (topT k ts top))) => withFloor_any k (L + k) (L + k) ⟨g4, 0, none⟩ (topT k ts top) w4 hv HL2.out.symm h2 (by omega))
      have HNR := Lib.hid (fun g5 cap5 (w5 : World) (hv : Vals w5 (some ⟨g5, 0, none⟩) (tc (allT k (topT k ts top)))) (q1 : w.heap.size ≤ g5) (q2 : g5 < w5.heap.size) (q3 : w.heap.size ≤ w5.heap.size) => newRaising_any w.heap.size k (L + k + k) g5 cap5 (allT k (topT k ts top)) w5 hv HL3.out.symm h2 q1 q2 q3)
      have hsz1 := hb1.size
      go_upto_region 4 with (go_at_call 56; refine (HF.out _ hb1).mono ?_; rintro e w3 ⟨v3, rfl, hv3, hb3⟩; obtain ⟨g3, cap3, rfl, hg3, hgw3, hcap3, hvals3⟩ := hv3.vals; have hB3 := below_on hb1 hsz1 hb3; clear hv3)
      refine (HFT.out g3 cap3 _ hvals3).mono ?_
      rintro e w4 ⟨g4, rfl, hg4, hblk4, hb4⟩
      have hB4 := below_on hB3 hB3.size hb4
      have HV4 := Lib.hid hblk4.vals0
      clear hvals3 hblk4 HFT HF
      go_upto_region 4 with (fail)
      refine (HWF.out g4 _ HV4.out).mono ?_
      rintro e w5 ⟨v5, rfl, hv5, hb5⟩
      obtain ⟨g5, cap5, rfl, hg5, hgw5, hcap5, hvals5⟩ := hv5.vals
      have hB5 := below_on hB4 hB4.size hb5
      have HV5 := Lib.hid hvals5
      clear hv5 hvals5 HV4 HWF
      go_upto_region 4 with (fail)
      refine (HNR.out g5 cap5 _ HV5.out (by have := hB4.size; omega) hgw5 (by have := hB5.size; omega)).mono ?_
      rintro e w6 ⟨p, gh, gb, rfl, hm, hb6⟩
      have hB6 := below_on hB5 hB5.size hb6
      clear HV5
      have HST := Lib.hid (settle_any w.heap.size w6 p g5 cap5 gh gb k (allT k (topT k ts top)) 2000000 hm hB6.size (okL_all HOT.out (by omega)) (by omega) h2 (by omega) (by rw [HL3.out]; omega))
      have HB6 := Lib.hid hB6
      clear hm hb1 hb3 hb4 hb5 hb6 hB3 hB4 hB5 hB6 HNR hsz1
      go_wp2_with (go_at_call 57; refine (HST.out).mono ?_; intro e w7 hset; have hb7 := HB6.out.trans hset.1; rcases set_cases hset HOT.out (by omega) with ⟨h', by_, rfl, hm, hle, hxc⟩ | ⟨q, h', by_, m, rfl, hm, hno, hway⟩)
      · have hxb : ∀ p, 0 ≤ h' (p + 1) ∨ k ≤ p := fun p => by
          by_cases hp : p < k
          · exact .inl (hle.sol.1 p hp)
          · exact .inr (by omega)
        have hht := heights_any w.heap.size w7 p g5 cap5 gh gb k _ h' by_ hm h2 h1
        have hgr := great_of HO.out (by omega) hle
        have hub : ∀ i, i < k → 0 ≤ h' (i + 1) ∧ h' (i + 1) ≤ top := fun i hi => by
          have q1 := hgr.sol.1.1 i hi
          have q2 := hle.sol.1 i hi
          simp only at q1 q2
          omega
        have HH := Lib.hid hht
        have HGR := Lib.hid hgr
        have HUB := Lib.hid hub
        have HB7 := Lib.hid hb7
        clear hht hle hset hm hgr hub hb7 hxb hxc
        obtain ⟨d, hd⟩ : ∃ d : Nat → Int, d = fun i => h' (i + 1) := ⟨_, rfl⟩
        go_upto_region 7 with (go_at_call 58; refine (HH.out).mono ?_; rintro e w8 ⟨v, rfl, ⟨g, cap, rfl, hgB, hcp, hcm, _, hhd⟩, hb8⟩)
        have hB8 := below_on HB7.out HB7.out.size hb8
        have hgb : w.heap.size ≤ g := by have := HB7.out.size; omega
        rw [Nat.mul_one] at hhd
        have HHD := Lib.hid hhd
        have HB8 := Lib.hid hB8
        clear hhd hB8 hb8 HH
        go_wp2_with (fail)
        go_loopw [10, 11, 37] (fun _ _ t wr => ∃ i : Nat, i ≤ k ∧ t = .int .i64 (i : Int) ∧ Hd 3 wr g cap (fl (fun j => if j < i then top - h' (j + 1) else h' (j + 1)) k) ∧ Below w.heap.size w wr) (fun _ _ t _ => k - (intOf t).toNat)
        case atStart => exact ⟨0, Nat.zero_le _, rfl, by simpa using HHD.out, HB8.out⟩
        case round =>
          obtain ⟨i, hi, rfl, hh, hb⟩ := hrel
          clear HHD HB8
          by_cases hlt : i < k
          · have hub := HUB.out i hlt
            have hlt2 : (i : Int) < (k : Int) := by omega
            have c0 : wr.cell? ⟨g, i, none⟩ = some (.int .i64 (h' (i + 1))) := by
              have := (hh.vals).at_ (i := i) (by rw [fl_len]; exact hlt)
              obtain ⟨g', off, v, e, _, hv, hc⟩ := this
              injection e with e
              injection e with e1 e2
              subst e1 e2
              rw [fl_at hlt] at hv
              rw [Nat.zero_add] at hc
              rw [hc, ← hv]
              simp
            have fz := hh.frozen i
            have hw : IntKind.i64.wrap (top - h' (i + 1)) = top - h' (i + 1) := wrapI (by omega) (by omega)
            have hn2 := hd_setI hh hlt (top - h' (i + 1))
            have hnx : fl (upd (fun j => if j < i then top - h' (j + 1) else h' (j + 1)) i (top - h' (i + 1))) k = fl (fun j => if j < i + 1 then top - h' (j + 1) else h' (j + 1)) k := fl_congr fun j _ => by
              by_cases hj : j = i
              · rw [hj, upd_at, if_pos (by omega)]
              · rw [upd_ne hj]
                by_cases h2 : j < i
                · rw [if_pos h2, if_pos (by omega)]
                · rw [if_neg h2, if_neg (by omega)]
            rw [hnx] at hn2
            have HN2 := Lib.hid hn2
            have HB := Lib.hid hb
            clear hn2 hnx hh hb hd
            generalize h' (i + 1) = di at *
            go_wp2_with (fail)
            go_roundw
            case rel => exact ⟨i + 1, by omega, by go_num, HN2.out, below_set HB.out hgb _⟩
            case measure => simp [intOf]; omega
          · obtain rfl : i = k := by omega
            have he : fl (fun j => if j < i then top - h' (j + 1) else h' (j + 1)) i = fl (fun j => top - h' (j + 1)) i := fl_congr fun j hj => by rw [if_pos hj]
            rw [he] at hh
            have HHH := Lib.hid hh
            clear he hh
            go_wp2
            go_ret2
            exact ⟨hb, .inr ⟨i, rfl, HR.out, ⟨t0, t1⟩, ⟨h1, h2⟩, HO.out, .inl ⟨_, g, cap, HGR.out, rfl, HHH.out.vals⟩⟩⟩
      · have hq : ((q : Int) - 1 != -2) = true := by simp; omega
        have hnt := none_top HO.out (by omega) hno
        have HNT := Lib.hid hnt
        clear hset hnt hno hway hm
        go_wp2
        go_ret2
        exact ⟨hb7, .inr ⟨k, rfl, HR.out, ⟨t0, t1⟩, ⟨h1, h2⟩, HO.out, .inr ⟨HNT.out, rfl⟩⟩⟩
end Go.Proofs.Ytpaemlkikkcjiaa
