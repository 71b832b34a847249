/- lives. -/
import Derived.Test.YtkfjlgjncaddpaaWBst
import Derived.Test.YtkfjlgjncaddpaaWEq
namespace Go.Proofs.Ytkfjlgjncaddpaa
open Go.RowKit

def lvS : List Sh := [⟨2, 3, 10, false⟩]
set_option maxRecDepth 100000 in
theorem lv_v : (best 1 lvS 5 3).v = 20 := by kernel_rfl
set_option maxRecDepth 100000 in
theorem lv_p : planF 1 lvS 5 3 = [⟨3, 2⟩, ⟨1, 0⟩, ⟨1, 0⟩] := by kernel_rfl
theorem lv_ok : okP 5 3 1 lvS = true := by decide
theorem best_lives (ad : Addr) (w : World) (h : ShAt w (some ad) lvS) : Calls Try.prog 23 #[.int .i64 5, .int .i64 3, .int .i64 1, .slice (some ad) 1 1] w fun e w' =>
    ∃ g cap, e = .returned (.tuple #[.slice (some ⟨g, 0, none⟩) 3 cap, .int .i64 20, .int .i64 0]) ∧ CuAt w' (some ⟨g, 0, none⟩) [⟨3, 2⟩, ⟨1, 0⟩, ⟨1, 0⟩] ∧ Below w.heap.size w w' := by
  refine (pbest_any 5 3 1 (some ad) 1 1 lvS w h rfl (by omega)).mono ?_
  rintro e w' ⟨hb, ⟨hf, _⟩ | ⟨i, j, k, hi, hj, hk, _, g, cap, rfl, _, _, _, _, hv⟩⟩
  · rw [lv_ok] at hf; cases hf
  · have hi : i = 5 := by omega
    have hj : j = 3 := by omega
    have hk : k = 1 := by omega
    subst hi hj hk
    rw [lv_p] at hv
    exact ⟨g, cap, by rw [lv_p, lv_v]; rfl, hv, hb⟩
set_option maxHeartbeats 1000000 in
set_option maxRecDepth 100000 in
theorem lives_any (w : World) : Calls Try.prog 20 #[] w fun e w' => e = .returned (.bool true) ∧ Below w.heap.size w w' := by
  have hb1 := below_new w (.cells #[.int .i64 2, .int .i64 3, .int .i64 10, .bool false] 65)
  have hq : ShAt (w.alloc (.cells #[.int .i64 2, .int .i64 3, .int .i64 10, .bool false] 65)) (some ⟨w.heap.size, 0, none⟩) lvS := (Blk.new w 65 (sc lvS)).vals0
  have hbs := best_lives ⟨w.heap.size, 0, none⟩ _ hq
  have HBS := Lib.hid hbs
  have HB1 := Lib.hid hb1
  clear hbs hq hb1
  go_enter Try.func20, Try.ntmps20
  go_upto_region 2 with (go_at_call 23; refine (HBS.out).mono ?_; rintro e w1 ⟨g, cap, rfl, hv, hb2⟩)
  have hbw := below_on HB1.out HB1.out.size hb2
  have hb3 := below_new w1 (.cells #[.int .i64 3, .int .i64 2, .int .i64 1, .int .i64 0, .int .i64 1, .int .i64 0] 73)
  have hv2 : CuAt (w1.alloc (.cells #[.int .i64 3, .int .i64 2, .int .i64 1, .int .i64 0, .int .i64 1, .int .i64 0] 73)) (some ⟨w1.heap.size, 0, none⟩) [⟨3, 2⟩, ⟨1, 0⟩, ⟨1, 0⟩] := (Blk.new w1 73 (cc [⟨3, 2⟩, ⟨1, 0⟩, ⟨1, 0⟩])).vals0
  have hcu := cuts_any _ _ cap 3 3 3 _ _ _ (Vals.keep hv hb3) hv2 rfl rfl (by omega) (by omega)
  rw [decide_eq_true rfl] at hcu
  have HCU := Lib.hid hcu
  have HBW := Lib.hid (below_on hbw hbw.size hb3)
  clear hcu hv2 hb3 hbw hb2 hv HBS HB1
  go_wp2_with (go_at_call 25; refine (HCU.out).mono ?_; rintro e w2 ⟨rfl, hb4⟩)
  go_ret
  exact ⟨rfl, below_on HBW.out HBW.out.size hb4⟩
end Go.Proofs.Ytkfjlgjncaddpaa
