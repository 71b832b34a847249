/- The walk of ActionNobody. -/
import Derived.Test.YtpaemlkikkcjiaaWNob
import Derived.Laws.StructEq
import Derived.Laws.Rows
namespace Go.Proofs.Ytpaemlkikkcjiaa
open Go.RowKit

structure NobW (B : Nat) (a b c d : Int) (w W : World) : Prop where
  act : Blk 59 W B [.int .i64 a, .int .i64 b, .int .i64 c, .int .i64 d]
  mac : Blk 93 W (B + 1) [.int .i64 0, .int .i64 0, .slice none 0 0, .slice none 0 0]
  lst : Blk 46 W (B + 1 + 1) [.pointer none, .pointer (some ⟨B + 1, 0, none⟩)]
  bel : Below B w W
theorem NobW.step {B : Nat} {a b c d : Int} {w W V : World} (h : NobW B a b c d w W) (hb : Below W.heap.size W V) : NobW B a b c d w V :=
  ⟨h.act.keep hb, h.mac.keep hb, h.lst.keep hb, below_on h.bel (by have := h.act.lt; omega) hb⟩
theorem nob_new (a b c d : Int) (w : World) : NobW w.heap.size a b c d w (((w.alloc (.cells #[.int .i64 a, .int .i64 b, .int .i64 c, .int .i64 d] 59)).alloc (.cells #[.int .i64 0, .int .i64 0, .slice none 0 0, .slice none 0 0] 93)).alloc (.cells #[.pointer none, .pointer (some ⟨w.heap.size + 1, 0, none⟩)] 46)) := by
  have b1 := below_new w (.cells #[.int .i64 a, .int .i64 b, .int .i64 c, .int .i64 d] 59)
  have q1 : Blk 59 (w.alloc (.cells #[.int .i64 a, .int .i64 b, .int .i64 c, .int .i64 d] 59)) w.heap.size [.int .i64 a, .int .i64 b, .int .i64 c, .int .i64 d] := Blk.new w 59 [_, _, _, _]
  have e1 : (w.alloc (.cells #[.int .i64 a, .int .i64 b, .int .i64 c, .int .i64 d] 59)).heap.size = w.heap.size + 1 := by simp
  generalize w.alloc (.cells #[.int .i64 a, .int .i64 b, .int .i64 c, .int .i64 d] 59) = w1 at *
  have b2 := below_new w1 (.cells #[.int .i64 0, .int .i64 0, .slice none 0 0, .slice none 0 0] 93)
  have q2 : Blk 93 (w1.alloc (.cells #[.int .i64 0, .int .i64 0, .slice none 0 0, .slice none 0 0] 93)) w1.heap.size [.int .i64 0, .int .i64 0, .slice none 0 0, .slice none 0 0] := Blk.new w1 93 [_, _, _, _]
  have e2 : (w1.alloc (.cells #[.int .i64 0, .int .i64 0, .slice none 0 0, .slice none 0 0] 93)).heap.size = w1.heap.size + 1 := by simp
  generalize w1.alloc (.cells #[.int .i64 0, .int .i64 0, .slice none 0 0, .slice none 0 0] 93) = w2 at *
  have b3 := below_new w2 (.cells #[.pointer none, .pointer (some ⟨w.heap.size + 1, 0, none⟩)] 46)
  have q3 : Blk 46 (w2.alloc (.cells #[.pointer none, .pointer (some ⟨w.heap.size + 1, 0, none⟩)] 46)) w2.heap.size [.pointer none, .pointer (some ⟨w.heap.size + 1, 0, none⟩)] := Blk.new w2 46 [_, _]
  rw [e1] at q2 e2
  rw [e2] at q3
  exact ⟨(q1.keep b2).keep b3, q2.keep b3, q3, below_on (below_on b1 b1.size b2) (below_on b1 b1.size b2).size b3⟩
set_option maxHeartbeats 8000000 in
set_option maxRecDepth 100000 in
theorem actionNobody_any (a b c d key reg : Int) (w : World) :
    Calls Try.prog 21 #[.agg #[.int .i64 a, .int .i64 b, .int .i64 c, .int .i64 d], .int .i64 key, .int .i64 reg] w fun e w' => e = .returned (.bool true) ∧ Below w.heap.size w w' := by
  have hn := nob_new a b c d w
  go_enter Try.func21, Try.ntmps21
  go_wp2_with (fail)
  generalize (((w.alloc (.cells #[.int .i64 a, .int .i64 b, .int .i64 c, .int .i64 d] 59)).alloc (.cells #[.int .i64 0, .int .i64 0, .slice none 0 0, .slice none 0 0] 93)).alloc (.cells #[.pointer none, .pointer (some ⟨w.heap.size + 1, 0, none⟩)] 46)) = W at *
  have HN := Lib.hid hn
  clear hn
  obtain ⟨B, hB⟩ : ∃ B, B = w.heap.size := ⟨_, rfl⟩
  rw [← hB] at HN ⊢
  have HB := Lib.hid hB
  clear hB
  go_loopw [9, 10, 11, 12, 13, 14, 15, 16, 17, 18, 24] (fun _ _ _ _ _ _ _ _ _ _ t wr => ∃ k : Nat, k ≤ 2 ∧ t = .int .i64 (k : Int) ∧ NobW B a b c d w wr) (fun _ _ _ _ _ _ _ _ _ _ t _ => 2 - (intOf t).toNat)
  case atStart => exact ⟨0, by omega, rfl, HN.out⟩
  case round =>
    obtain ⟨k, hk, rfl, hn⟩ := hrel
    clear HN
    by_cases hlt : k < 2
    · obtain ⟨v, hv, hno⟩ : ∃ v, wr.cell? ⟨B + 1 + 1, k, none⟩ = some (.pointer v) ∧ NoM wr v := by
        have h0 := hn.lst.cell 0
        have h1 := hn.lst.cell 1
        have h2 := hn.mac.cell 2
        match k, hlt with
        | 0, _ => exact ⟨none, h0, .inl rfl⟩
        | 1, _ => exact ⟨_, h1, .inr ⟨_, rfl, h2⟩⟩
      have c0 : wr.cell? ⟨B, 0, none⟩ = some (.int .i64 a) := hn.act.cell 0
      have c1 : wr.cell? ⟨B, 1, none⟩ = some (.int .i64 b) := hn.act.cell 1
      have c2 : wr.cell? ⟨B, 2, none⟩ = some (.int .i64 c) := hn.act.cell 2
      have c3 : wr.cell? ⟨B, 3, none⟩ = some (.int .i64 d) := hn.act.cell 3
      have hlt2 : (k : Int) < 2 := by omega
      have HDO := Lib.hid (do_no wr v a b c d hno)
      have HN := Lib.hid hn
      have HNO := Lib.hid hno
      clear hn hno
      go_upto_region 6 with (go_at_call 41; refine (HDO.out).mono ?_; rintro e w1 ⟨rfl, hb1⟩)
      have hno1 := HNO.out.keep hb1
      have hn1 := HN.out.step hb1
      have HK := Lib.hid (key_no w1 v key hno1)
      have HJ := Lib.hid (jack_no w1 v key reg hno1)
      have HN1 := Lib.hid hn1
      have HNO1 := Lib.hid hno1
      clear hno1 hn1 hb1 HN HNO HDO c0 c1 c2 c3 hv
      go_upto_region 7 with (go_at_call 47; refine (HK.out).mono ?_; rintro e wk ⟨rfl, rfl⟩)
      go_upto_region 8 with (go_at_call 48; refine (HJ.out).mono ?_; rintro e w2 ⟨rfl, hb2⟩)
      have hno2 := (HNO1.out.keep hb2).keep (below_new w2 (.cells #[.bool false, .bool false, .int .i64 0] 74))
      have hn2 := (HN1.out.step hb2).step (below_new w2 (.cells #[.bool false, .bool false, .int .i64 0] 74))
      have hq : Blk 74 (w2.alloc (.cells #[.bool false, .bool false, .int .i64 0] 74)) w2.heap.size [.bool false, .bool false, .int .i64 0] := Blk.new w2 74 [_, _, _]
      clear hb2 HK HJ HNO1 HN1
      generalize w2.alloc (.cells #[.bool false, .bool false, .int .i64 0] 74) = W2 at *
      generalize w2.heap.size = q at *
      have q0 : W2.cell? ⟨q, 0, none⟩ = some (.bool false) := hq.cell 0
      have q1 : W2.cell? ⟨q, 1, none⟩ = some (.bool false) := hq.cell 1
      have q2 : W2.cell? ⟨q, 2, none⟩ = some (.int .i64 0) := hq.cell 2
      have HO := Lib.hid (on_no W2 v reg hno2)
      have HW := Lib.hid (now_no W2 v hno2)
      have HC := Lib.hid (clone_no W2 v hno2)
      have HN2 := Lib.hid hn2
      clear hno2 hn2 hq
      go_upto_region 9 with (go_at_call 49; refine (HO.out).mono ?_; rintro e wo ⟨rfl, rfl⟩)
      go_wp2_with (first
        | (go_at_call 53; refine (HW.out).mono ?_; rintro e wo ⟨rfl, rfl⟩)
        | (go_at_call 52; refine (HC.out).mono ?_; rintro e wo ⟨rfl, rfl⟩))
      go_roundw
      case rel => exact ⟨k + 1, by omega, by go_num, HN2.out⟩
      case measure => simp [intOf]; omega
    · obtain rfl : k = 2 := by omega
      have hbb := HB.out ▸ hn.bel
      have HBB := Lib.hid hbb
      have hsz : w.heap.size ≤ wr.heap.size := by have := hn.act.lt; have := HB.out; omega
      clear hbb hn
      go_wp2_with (go_at_call 26; refine (lives_any _).mono ?_; rintro e w6 ⟨rfl, hb6⟩)
      go_ret
      exact ⟨rfl, below_on HBB.out hsz hb6⟩
end Go.Proofs.Ytpaemlkikkcjiaa
