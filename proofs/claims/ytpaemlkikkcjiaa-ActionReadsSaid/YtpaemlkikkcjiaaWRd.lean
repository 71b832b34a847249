/- Key, Jack, On of a machine that New returned. -/
import Derived.Test.YtpaemlkikkcjiaaWNob
import Derived.Test.YtpaemlkikkcjiaaWNewA
import Derived.BigQuiet
namespace Go.Proofs.Ytpaemlkikkcjiaa
open Go.RowKit

set_option maxHeartbeats 2000000 in
set_option maxRecDepth 100000 in
theorem key_ok (w : World) (p gl cl gr cr k : Nat) (m : Mk) (S : Ms) (hM : MacM w p gl cl gr cr m S) (hm : OkMk m) (hk : k < m.K) :
    Calls Try.prog 47 #[.pointer (some ⟨p, 0, none⟩), .int .i64 (k : Int)] w fun e w' => e = .returned (.tuple #[.int .i64 (S.ht k), .int .i64 (S.tg k), .int .i64 0]) ∧ ∃ z, w' = w.drewN z := by
  have h1 := made_any w p gl cl gr cr m S hM hm.k1
  have h2 := hasKey_any w p gl cl gr cr m S hM hm.k2 (k : Int)
  have hi : inB (k : Int) 0 ((m.K : Int) - 1) = true := by unfold inB; simp; omega
  rw [hi] at h2
  have H1 := Lib.hid h1
  have H2 := Lib.hid h2
  have b2 := hM.b2
  have c0 := hM.ht hk
  have c1 := hM.tg hk
  have hk2 : (k : Int) < (m.K : Int) := by omega
  clear hM h1 h2 hi hm
  generalize S.ht k = h at *
  generalize S.tg k = t at *
  go_enter Try.func47, Try.ntmps47
  go_upto_region 5 with (first | (go_at_call 68; refine (H1.out).mono ?_; rintro e w1 ⟨rfl, rfl⟩) | (go_at_call 69; refine (H2.out).mono ?_; rintro e w1 ⟨rfl, rfl⟩))
  go_quiet (fail)
  go_wp2_with (fail)
  go_ret3
  exact ⟨rfl, _, rfl⟩
theorem key_bad (w : World) (p gl cl gr cr : Nat) (k : Int) (m : Mk) (S : Ms) (hM : MacM w p gl cl gr cr m S) (hm : OkMk m) (hk : inB k 0 ((m.K : Int) - 1) = false) :
    Calls Try.prog 47 #[.pointer (some ⟨p, 0, none⟩), .int .i64 k] w fun e w' => e = .returned (.tuple #[.int .i64 0, .int .i64 0, .int .i64 1]) ∧ ∃ z, w' = w.drewN z := by
  have h1 := made_any w p gl cl gr cr m S hM hm.k1
  have h2 := hasKey_any w p gl cl gr cr m S hM hm.k2 k
  rw [hk] at h2
  have H1 := Lib.hid h1
  have H2 := Lib.hid h2
  clear hM h1 h2 hk hm
  go_enter Try.func47, Try.ntmps47
  go_wp2_with (first | (go_at_call 68; refine (H1.out).mono ?_; rintro e w1 ⟨rfl, rfl⟩) | (go_at_call 69; refine (H2.out).mono ?_; rintro e w1 ⟨rfl, rfl⟩))
  go_ret3
  exact ⟨rfl, 0, rfl⟩
set_option maxHeartbeats 2000000 in
set_option maxRecDepth 100000 in
theorem on_ok (w : World) (p gl cl gr cr r : Nat) (m : Mk) (S : Ms) (hM : MacM w p gl cl gr cr m S) (hm : OkMk m) (hr : r < m.N) :
    Calls Try.prog 49 #[.pointer (some ⟨p, 0, none⟩), .int .i64 (r : Int)] w fun e w' => e = .returned (.tuple #[.bool (S.on r), .int .i64 0]) ∧ ∃ z, w' = w.drewN z := by
  have h1 := made_any w p gl cl gr cr m S hM hm.k1
  have h2 := hasReg_any w p gl cl gr cr m S hM (by have := hm.n2; omega) (r : Int)
  have hi : inB (r : Int) 0 ((m.N : Int) - 1) = true := by unfold inB; simp; omega
  rw [hi] at h2
  have H1 := Lib.hid h1
  have H2 := Lib.hid h2
  have b3 := hM.b3
  have c3 := hM.on hr
  have hr2 : (r : Int) < (m.N : Int) := by omega
  clear hM h1 h2 hi hm
  generalize S.on r = o at *
  go_enter Try.func49, Try.ntmps49
  go_wp2_with (first | (go_at_call 68; refine (H1.out).mono ?_; rintro e w1 ⟨rfl, rfl⟩) | (go_at_call 71; refine (H2.out).mono ?_; rintro e w1 ⟨rfl, rfl⟩))
  go_ret2
  exact ⟨rfl, 0, rfl⟩
theorem on_bad (w : World) (p gl cl gr cr : Nat) (r : Int) (m : Mk) (S : Ms) (hM : MacM w p gl cl gr cr m S) (hm : OkMk m) (hr : inB r 0 ((m.N : Int) - 1) = false) :
    Calls Try.prog 49 #[.pointer (some ⟨p, 0, none⟩), .int .i64 r] w fun e w' => e = .returned (.tuple #[.bool false, .int .i64 1]) ∧ ∃ z, w' = w.drewN z := by
  have h1 := made_any w p gl cl gr cr m S hM hm.k1
  have h2 := hasReg_any w p gl cl gr cr m S hM (by have := hm.n2; omega) r
  rw [hr] at h2
  have H1 := Lib.hid h1
  have H2 := Lib.hid h2
  clear hM h1 h2 hr hm
  go_enter Try.func49, Try.ntmps49
  go_wp2_with (first | (go_at_call 68; refine (H1.out).mono ?_; rintro e w1 ⟨rfl, rfl⟩) | (go_at_call 71; refine (H2.out).mono ?_; rintro e w1 ⟨rfl, rfl⟩))
  go_ret2
  exact ⟨rfl, 0, rfl⟩
set_option maxHeartbeats 2000000 in
set_option maxRecDepth 100000 in
theorem jack_bad (w : World) (p gl cl gr cr : Nat) (k r : Int) (m : Mk) (S : Ms) (hM : MacM w p gl cl gr cr m S) (hm : OkMk m) (hk : (inB k 0 ((m.K : Int) - 1) && inB r 0 ((m.N : Int) - 1)) = false) :
    Calls Try.prog 48 #[.pointer (some ⟨p, 0, none⟩), .int .i64 k, .int .i64 r] w fun e w' => e = .returned (.tuple #[.agg #[.bool false, .bool false, .int .i64 0], .int .i64 1]) ∧ Below w.heap.size w w' := by
  have hb := below_new w (.cells #[.bool false, .bool false, .int .i64 0] 74)
  have hM1 := hM.keep hb
  have h1 := made_any _ p gl cl gr cr m S hM1 hm.k1
  have h2 := hasKey_any _ p gl cl gr cr m S hM1 hm.k2 k
  have h3 := hasReg_any _ p gl cl gr cr m S hM1 (by have := hm.n2; omega) r
  cases hc : inB k 0 ((m.K : Int) - 1) with
  | false =>
    rw [hc] at h2
    have H1 := Lib.hid h1
    have H2 := Lib.hid h2
    clear hM hM1 h1 h2 h3 hk hm hc
    go_enter Try.func48, Try.ntmps48
    go_wp2_with (first | (go_at_call 68; refine (H1.out).mono ?_; rintro e w1 ⟨rfl, rfl⟩) | (go_at_call 69; refine (H2.out).mono ?_; rintro e w1 ⟨rfl, rfl⟩))
    (try simp only [Exit.inBlock, Exit.then])
    refine bodyPost_ret (v := .tuple #[.agg #[.bool false, .bool false, .int .i64 0], .int .i64 1]) ?_ rfl ⟨rfl, ?_⟩
    · rw [results_cell_tmp rfl]
      go_simp
    · exact hb
  | true =>
    rw [hc] at h2 hk
    rw [Bool.true_and] at hk
    rw [hk] at h3
    have H1 := Lib.hid h1
    have H2 := Lib.hid h2
    have H3 := Lib.hid h3
    clear hM hM1 h1 h2 h3 hk hm hc
    go_enter Try.func48, Try.ntmps48
    go_wp2_with (first | (go_at_call 68; refine (H1.out).mono ?_; rintro e w1 ⟨rfl, rfl⟩) | (go_at_call 69; refine (H2.out).mono ?_; rintro e w1 ⟨rfl, rfl⟩) | (go_at_call 71; refine (H3.out).mono ?_; rintro e w1 ⟨rfl, rfl⟩))
    (try simp only [Exit.inBlock, Exit.then])
    refine bodyPost_ret (v := .tuple #[.agg #[.bool false, .bool false, .int .i64 0], .int .i64 1]) ?_ rfl ⟨rfl, ?_⟩
    · rw [results_cell_tmp rfl]
      go_simp
    · exact hb
set_option maxHeartbeats 2000000 in
set_option maxRecDepth 100000 in
theorem jack_ok (w : World) (p gl cl gr cr k r : Nat) (m : Mk) (S : Ms) (hM : MacM w p gl cl gr cr m S) (hm : OkMk m) (hk : k < m.K) (hr : r < m.N) :
    Calls Try.prog 48 #[.pointer (some ⟨p, 0, none⟩), .int .i64 (k : Int), .int .i64 (r : Int)] w fun e w' => e = .returned (.tuple #[.agg #[.bool (S.jk k r).ab, .bool (S.jk k r).so, .int .i64 (S.jk k r).si], .int .i64 0]) ∧ Below w.heap.size w w' := by
  have hb := below_new w (.cells #[.bool false, .bool false, .int .i64 0] 74)
  have hM1 := hM.keep hb
  have h1 := made_any _ p gl cl gr cr m S hM1 hm.k1
  have h2 := hasKey_any _ p gl cl gr cr m S hM1 hm.k2 (k : Int)
  have h3 := hasReg_any _ p gl cl gr cr m S hM1 (by have := hm.n2; omega) (r : Int)
  have hi : inB (k : Int) 0 ((m.K : Int) - 1) = true := by unfold inB; simp; omega
  have hj : inB (r : Int) 0 ((m.N : Int) - 1) = true := by unfold inB; simp; omega
  rw [hi] at h2
  rw [hj] at h3
  have H1 := Lib.hid h1
  have H2 := Lib.hid h2
  have H3 := Lib.hid h3
  have b2 := hM1.b2
  have hr4 : r < 4 := by have := hm.n2; omega
  have c0 := hM1.ab hk hr4
  have c1 := hM1.so hk hr4
  have c2 := hM1.si hk hr4
  have e0 : k * 14 + (2 + r * 3) = k * 14 + 2 + r * 3 := by omega
  have e1 : k * 14 + (3 + r * 3) = k * 14 + 2 + r * 3 + 1 := by omega
  have e2 : k * 14 + (4 + r * 3) = k * 14 + 2 + r * 3 + 2 := by omega
  rw [e0] at c0
  rw [e1] at c1
  rw [e2] at c2
  clear e0 e1 e2
  have hk2 : (k : Int) < (m.K : Int) := by omega
  have hr5 : (r : Int) < 4 := by omega
  clear hM hM1 h1 h2 h3 hi hj hm
  generalize (S.jk k r).ab = ja at *
  generalize (S.jk k r).so = js at *
  generalize (S.jk k r).si = jt at *
  have hq : Blk 74 (w.alloc (.cells #[.bool false, .bool false, .int .i64 0] 74)) w.heap.size [.bool false, .bool false, .int .i64 0] := Blk.new w 74 _
  have HQ := Lib.hid hq
  have HB := Lib.hid hb
  clear hq hb
  go_enter Try.func48, Try.ntmps48
  go_upto_region 5 with (first | (go_at_call 68; refine (H1.out).mono ?_; rintro e w1 ⟨rfl, rfl⟩) | (go_at_call 69; refine (H2.out).mono ?_; rintro e w1 ⟨rfl, rfl⟩) | (go_at_call 71; refine (H3.out).mono ?_; rintro e w1 ⟨rfl, rfl⟩))
  have q0 := HQ.out.cell 0
  have q1 := HQ.out.cell 1
  have q2 := HQ.out.cell 2
  have qf := HQ.out.frozen
  have HR := Lib.hid (((HQ.out.set 0 (.bool ja)).set 1 (.bool js)).set 2 (.int .i64 jt))
  have HC := Lib.hid (below_set (below_set (below_set HB.out (Nat.le_refl _) (i := 0) (.bool ja)) (Nat.le_refl _) (i := 1) (.bool js)) (Nat.le_refl _) (i := 2) (.int .i64 jt))
  generalize w.alloc (.cells #[.bool false, .bool false, .int .i64 0] 74) = W at *
  clear HQ HB H1 H2 H3
  have q0' : W.cell? ⟨w.heap.size, 0, none⟩ = some (.bool false) := q0
  have q1' : W.cell? ⟨w.heap.size, 1, none⟩ = some (.bool false) := q1
  have q2' : W.cell? ⟨w.heap.size, 2, none⟩ = some (.int .i64 0) := q2
  clear q0 q1 q2
  go_wp2_with (fail)
  (try simp only [Exit.inBlock, Exit.then])
  refine bodyPost_ret (v := .tuple #[.agg #[.bool ja, .bool js, .int .i64 jt], .int .i64 0]) ?_ rfl ⟨rfl, HC.out⟩
  have r0 := HR.out.cell 0
  have r1 := HR.out.cell 1
  have r2 := HR.out.cell 2
  generalize ((W.setCell ⟨w.heap.size, 0, none⟩ (.bool ja)).setCell ⟨w.heap.size, 1, none⟩ (.bool js)).setCell ⟨w.heap.size, 2, none⟩ (.int .i64 jt) = W3 at *
  have r0' : W3.cell? ⟨w.heap.size, 0, none⟩ = some (.bool ja) := r0
  have r1' : W3.cell? ⟨w.heap.size, 1, none⟩ = some (.bool js) := r1
  have r2' : W3.cell? ⟨w.heap.size, 2, none⟩ = some (.int .i64 jt) := r2
  rw [results_cell_tmp rfl]
  go_simp
end Go.Proofs.Ytpaemlkikkcjiaa
