/- The walk of MatchDual. -/
import Derived.Test.YtncmfjncdhhjoaaWPrl
import Derived.Test.YtncmfjncdhhjoaaWBest
import Derived.Test.YtncmfjncdhhjoaaWLiw
import Derived.Test.YtncmfjncdhhjoaaWTbl
import Derived.Test.YtncmfjncdhhjoaaMShi
namespace Go.Proofs.Ytncmfjncdhhjoaa
open Go.RowKit

/-- A row of numbers as a list. -/
def mpI (f : Nat → Int) (n : Nat) : List Int := (List.range n).map f
theorem mpI_len (f : Nat → Int) (n : Nat) : (mpI f n).length = n := by simp [mpI]
theorem mpI_at {f : Nat → Int} {n i : Nat} (h : i < n) : (mpI f n).getD i 0 = f i := by simp [mpI, List.getD_eq_getElem?_getD, h]
theorem fl_mpI (f : Nat → Int) (n : Nat) : fl f n = is (mpI f n) := by simp [fl, is, mpI]
theorem inB_ofD {x lo hi : Int} (h1 : lo ≤ x) (h2 : x ≤ hi) : inB x lo hi = true := by unfold inB; simp [h1, h2]
/-- What Best finds is proved. -/
theorem dual_plain {n m : Nat} {c : Nat → Nat → Int} {u v : Nat → Int} {to : Nat → Nat} (A : Asg n m c to) (P : Proof n m c u v to)
    (bu : ∀ i, i < n → 0 ≤ u i ∧ u i ≤ 4096000000000) (bv : ∀ k, k < m → -4096000000000 ≤ v k ∧ v k ≤ 0) :
    IsAsg n m c (mpI (fun i => (to i : Int)) n) ∧ costN c (colOf (mpI (fun i => (to i : Int)) n)) n = costN c to n ∧ ColsP m (mpI (fun i => (to i : Int)) n) (mpI v m) ∧ RowsP n m c (mpI (fun i => (to i : Int)) n) (mpI u n) (mpI v m) := by
  have hg : ∀ i, i < n → (mpI (fun i => (to i : Int)) n).getD i 0 = (to i : Int) := fun i hi => mpI_at hi
  have hc : ∀ i, i < n → colOf (mpI (fun i => (to i : Int)) n) i = to i := fun i hi => by unfold colOf; rw [hg i hi]; simp
  refine ⟨⟨mpI_len _ _, fun i hi => by rw [hg i hi]; omega, ⟨fun i hi => by rw [hc i hi]; exact A.ok i hi, fun i j hi hj e => by rw [hc i hi, hc j hj] at e; exact A.inj i j hi hj e⟩⟩,
    sumN_congr fun i hi => by rw [hc i hi], fun k hk => ?_, fun i hi => ?_⟩
  · rw [mpI_at hk]
    have := bv k hk
    refine ⟨inB_ofD (by omega) (by omega), fun h => P.free k hk fun i hi e => h i (by rw [mpI_len]; exact hi) ?_⟩
    rw [hg i hi, e]
  · have h1 := bu i hi
    have h2 := (A.ok i hi).1
    refine ⟨by rw [mpI_at hi]; exact inB_ofD (by omega) (by omega), fun k hk hne => by rw [mpI_at hi, mpI_at hk]; exact P.low i k hi hk hne, ?_⟩
    rw [hc i hi, mpI_at hi, mpI_at h2]
    exact P.own i hi
theorem good_eq4 {n m n' m' : Nat} {ls : List (List Int)} (h : Good n m ls) (g : Good n' m' ls) (h1 : 1 ≤ n) : n = n' ∧ m = m' := by
  refine ⟨h.rows.symm.trans g.rows, ?_⟩
  obtain ⟨l, hl, hm⟩ := h.row (i := 0) (by omega)
  exact hm.symm.trans (g.cols 0 l hl)

set_option maxHeartbeats 8000000 in
set_option maxRecDepth 100000 in
theorem matchDual_any (A : Option Addr) (c L : Nat) (ls : List (List Int)) (w : World) (T : TabIn w A ls) (hL : L = ls.length) :
    Calls Try.prog 11 #[.slice A L c] w fun e w' => e = .returned (.bool true) ∧ Below w.heap.size w w' := by
  have htb := table_any A c L 40 44 ls w T hL (by omega) (by omega)
  have HTB := Lib.hid htb
  generalize tblL ls 40 44 = ts at *
  clear htb T hL
  go_enter Try.func11, Try.ntmps11
  go_wp2_with (go_at_call 21; refine (HTB.out).mono ?_; rintro e w1 ⟨v, es, rfl, hH, hv, hN, hE, hl1⟩
               obtain ⟨g, cap, he, hT⟩ := hH.tab hv hN
               rw [hE] at hT
               rw [show es.length = ts.length by rw [← hE, List.length_map]] at he
               subst he
               have HTT := Lib.hid hT
               clear hH hv hN hE hT)
  have hbe := best_any (some ⟨g, 0, none⟩) cap ts.length ts w1 HTT.out rfl
  refine hbe.mono ?_
  intro e w2 hpost
  have hl2 := hpost.1
  have hl12 := hl1.trans (hl2.mono hl1.size)
  have HTT2 := Lib.hid (HTT.out.keep hl2)
  clear hbe HTT HTB
  rcases hpost.2 with ⟨hchk, rfl⟩ | ⟨n, m, hchk, hn, hG, ⟨d1, d2, d3⟩, _, rfl⟩ | ⟨n, m, gt, gu, gv, to, u, v, hchk, hn, BO, rfl⟩
  · have n1 := below_new w2 (.cells #[.slice none 0 0, .slice none 0 0, .slice none 0 0, .int .i64 0] 35)
    have q1 := hl12.trans (n1.mono hl12.size)
    have hck := refCheck_any w1.heap.size (some ⟨g, 0, none⟩) cap ts.length ts (w2.alloc (.cells #[.slice none 0 0, .slice none 0 0, .slice none 0 0, .int .i64 0] 35)) (HTT2.out.keep (n1.mono hl2.size)) rfl
    have hce : ckE ts = 1 := by unfold ckE; rw [hchk]; rfl
    rw [hce] at hck
    have HCK := Lib.hid hck
    have hbn : Blk 35 (w2.alloc (.cells #[.slice none 0 0, .slice none 0 0, .slice none 0 0, .int .i64 0] 35)) w2.heap.size [.slice none 0 0, .slice none 0 0, .slice none 0 0, .int .i64 0] := Blk.new w2 35 _
    have HBN := Lib.hid hbn
    clear hpost hck hce hchk hbn
    unfold zeroM
    go_wp2_with (first
      | (go_at_call 23; refine (HCK.out).mono ?_; rintro e w3 ⟨rfl, hl3⟩
         have hb3 := HBN.out.keep hl3
         have z0 : w3.cell? ⟨w2.heap.size, 0, none⟩ = some (.slice none 0 0) := hb3.cell 0
         have z1 : w3.cell? ⟨w2.heap.size, 1, none⟩ = some (.slice none 0 0) := hb3.cell 1
         have z2 : w3.cell? ⟨w2.heap.size, 2, none⟩ = some (.slice none 0 0) := hb3.cell 2
         have z3 : w3.cell? ⟨w2.heap.size, 3, none⟩ = some (.int .i64 0) := hb3.cell 3
         have q2 := q1.trans (hl3.mono q1.size)
         clear hb3)
      | (go_at_call 29; refine (empty_ok _).mono ?_; rintro e w4 ⟨hl4, rfl⟩
         have q3 := q2.trans (hl4.mono q2.size))
      | (go_at_call 26; refine (lives_any _).mono ?_; rintro e w5 ⟨rfl, hl5⟩))
    go_ret
    exact ⟨rfl, q3.trans (hl5.mono q3.size)⟩
  · have n1 := below_new w2 (.cells #[.slice none 0 0, .slice none 0 0, .slice none 0 0, .int .i64 0] 35)
    have q1 := hl12.trans (n1.mono hl12.size)
    have hck := refCheck_any w1.heap.size (some ⟨g, 0, none⟩) cap ts.length ts (w2.alloc (.cells #[.slice none 0 0, .slice none 0 0, .slice none 0 0, .int .i64 0] 35)) (HTT2.out.keep (n1.mono hl2.size)) rfl
    have hce : ckE ts = 0 := by unfold ckE; rw [hchk]; rfl
    rw [hce] at hck
    have HCK := Lib.hid hck
    have hbn : Blk 35 (w2.alloc (.cells #[.slice none 0 0, .slice none 0 0, .slice none 0 0, .int .i64 0] 35)) w2.heap.size [.slice none 0 0, .slice none 0 0, .slice none 0 0, .int .i64 0] := Blk.new w2 35 _
    have HBN := Lib.hid hbn
    clear hpost hck hce hchk hbn hG hn
    unfold zeroM
    go_wp2_with (first
      | (go_at_call 23; refine (HCK.out).mono ?_; rintro e w3 ⟨rfl, hl3⟩
         have hb3 := HBN.out.keep hl3
         have z0 : w3.cell? ⟨w2.heap.size, 0, none⟩ = some (.slice none 0 0) := hb3.cell 0
         have z1 : w3.cell? ⟨w2.heap.size, 1, none⟩ = some (.slice none 0 0) := hb3.cell 1
         have z2 : w3.cell? ⟨w2.heap.size, 2, none⟩ = some (.slice none 0 0) := hb3.cell 2
         have z3 : w3.cell? ⟨w2.heap.size, 3, none⟩ = some (.int .i64 0) := hb3.cell 3
         have q2 := q1.trans (hl3.mono q1.size)
         clear hb3)
      | (go_at_call 29; refine (empty_ok _).mono ?_; rintro e w4 ⟨hl4, rfl⟩
         have q3 := q2.trans (hl4.mono q2.size))
      | (go_at_call 26; refine (lives_any _).mono ?_; rintro e w5 ⟨rfl, hl5⟩))
    go_ret
    exact ⟨rfl, q3.trans (hl5.mono q3.size)⟩
  · obtain ⟨d1, d2, d3⟩ := BO.dim
    have G := BO.good
    obtain ⟨p1, p2, p3, p4⟩ := dual_plain BO.min.asg BO.proof BO.bnd.1 BO.bnd.2
    have psum := BO.proof.sum BO.min.asg
    have hce : ckE ts = 0 := by unfold ckE; rw [hchk]; rfl
    obtain ⟨O, hO⟩ : ∃ O, O = Obj.cells #[.slice (some ⟨gt, 0, none⟩) n n, .slice (some ⟨gu, 0, none⟩) n n, .slice (some ⟨gv, 0, none⟩) m m, .int .i64 (costN (cst ts) to n)] 35 := ⟨_, rfl⟩
    have n1 := below_new w2 O
    have q1 := hl12.trans (n1.mono hl12.size)
    have hck := refCheck_any w1.heap.size (some ⟨g, 0, none⟩) cap n ts (w2.alloc O) (HTT2.out.keep (n1.mono hl2.size)) hn.symm
    rw [hce] at hck
    have hbn : Blk 35 (w2.alloc O) w2.heap.size [.slice (some ⟨gt, 0, none⟩) n n, .slice (some ⟨gu, 0, none⟩) n n, .slice (some ⟨gv, 0, none⟩) m m, .int .i64 (costN (cst ts) to n)] := by rw [hO]; exact Blk.new w2 35 _
    have r1 := BO.res.alloc O
    have r2 := BO.rows.alloc O
    have r3 := BO.cols.alloc O
    have hkb : ∀ W, Below (w2.alloc O).heap.size (w2.alloc O) W → Blk 35 W w2.heap.size [.slice (some ⟨gt, 0, none⟩) n n, .slice (some ⟨gu, 0, none⟩) n n, .slice (some ⟨gv, 0, none⟩) m m, .int .i64 (costN (cst ts) to n)] ∧ Blk 3 W gu (fl u n) ∧ Blk 3 W gv (fl v m) := fun W h => ⟨hbn.keep h, r2.keep h, r3.keep h⟩
    have hlp : ∀ W, Below (w2.alloc O).heap.size (w2.alloc O) W → Calls Try.prog 32 #[.slice (some ⟨g, 0, none⟩) n cap, .agg #[.slice (some ⟨gt, 0, none⟩) n n, .slice (some ⟨gu, 0, none⟩) n n, .slice (some ⟨gv, 0, none⟩) m m, .int .i64 (costN (cst ts) to n)]] W fun e w' => Below W.heap.size W w' ∧ e = .returned (.bool true) := fun W hW => by
      have h := lproves_ok w1.heap.size cap n n m n m (some ⟨g, 0, none⟩) (some ⟨gt, 0, none⟩) (some ⟨gu, 0, none⟩) (some ⟨gv, 0, none⟩) ts (mpI (fun i => (to i : Int)) n) (mpI u n) (mpI v m) W
        ((HTT2.out.keep (n1.mono hl2.size)).keep (hW.mono (Nat.le_trans hl2.size n1.size))) (Nat.le_trans (Nat.le_trans hl2.size n1.size) hW.size)
        (by have := (Hd.of_blk (r1.keep hW)).vals; rwa [fl_mpI] at this) (by have := (Hd.of_blk (r2.keep hW)).vals; rwa [fl_mpI] at this) (by have := (Hd.of_blk (r3.keep hW)).vals; rwa [fl_mpI] at this)
        G d1 d2 d3 (mpI_len _ _).symm (mpI_len _ _).symm p1 p3 p4
      rwa [p2] at h
    have hmp : ∀ W, Below (w2.alloc O).heap.size (w2.alloc O) W → Calls Try.prog 33 #[.slice (some ⟨g, 0, none⟩) n cap, .agg #[.slice (some ⟨gt, 0, none⟩) n n, .slice (some ⟨gu, 0, none⟩) n n, .slice (some ⟨gv, 0, none⟩) m m, .int .i64 (costN (cst ts) to n)]] W fun e w' => Below W.heap.size W w' ∧ e = .returned (.tuple #[.bool true, .int .i64 0]) := fun W hW => by
      have h := mproves_ok cap n n m n m (some ⟨g, 0, none⟩) (some ⟨gt, 0, none⟩) (some ⟨gu, 0, none⟩) (some ⟨gv, 0, none⟩) ts (mpI (fun i => (to i : Int)) n) (mpI u n) (mpI v m) W
        (((HTT2.out.keep (n1.mono hl2.size)).keep (hW.mono (Nat.le_trans hl2.size n1.size))).mono (Nat.le_trans (Nat.le_trans hl2.size n1.size) hW.size))
        (by have := (Hd.of_blk (r1.keep hW)).vals; rwa [fl_mpI] at this) (by have := (Hd.of_blk (r2.keep hW)).vals; rwa [fl_mpI] at this) (by have := (Hd.of_blk (r3.keep hW)).vals; rwa [fl_mpI] at this)
        G d1 d2 d3 hchk (mpI_len _ _).symm (mpI_len _ _).symm p1 p3 p4
      rwa [p2] at h
    have hbu : ∀ i, i ≤ n → -4096000000000000 ≤ sumN u i ∧ sumN u i ≤ 4096000000000000 := fun i hi => by
      have := sumN_bound (f := u) (K := 4096000000000) (n := i) fun a ha => by have := BO.bnd.1 a (by omega); omega
      constructor
      · have := this.1; omega
      · have := this.2; omega
    have hbv : ∀ k, k ≤ m → -4096000000000000 ≤ sumN v k ∧ sumN v k ≤ 4096000000000000 := fun k hk => by
      have := sumN_bound (f := v) (K := 4096000000000) (n := k) fun a ha => by have := BO.bnd.2 a (by omega); omega
      constructor
      · have := this.1; omega
      · have := this.2; omega
    have HCK := Lib.hid hck
    have HKB := Lib.hid hkb
    have HLP := Lib.hid hlp
    have HMP := Lib.hid hmp
    have HBU := Lib.hid hbu
    have HBV := Lib.hid hbv
    have HSUM := Lib.hid psum
    clear hck hkb hlp hmp hbu hbv psum p1 p2 p3 p4 G BO hbn r1 r2 r3 hpost hce hchk
    generalize costN (cst ts) to n = cs at *
    subst hO
    rw [hn]
    go_wp2_with (first
      | (go_at_call 23; refine (HCK.out).mono ?_; rintro e w3 ⟨rfl, hl3⟩
         have hb3 := (HKB.out w3 hl3).1
         have z0 : w3.cell? ⟨w2.heap.size, 0, none⟩ = some (.slice (some ⟨gt, 0, none⟩) n n) := hb3.cell 0
         have z1 : w3.cell? ⟨w2.heap.size, 1, none⟩ = some (.slice (some ⟨gu, 0, none⟩) n n) := hb3.cell 1
         have z2 : w3.cell? ⟨w2.heap.size, 2, none⟩ = some (.slice (some ⟨gv, 0, none⟩) m m) := hb3.cell 2
         have z3 : w3.cell? ⟨w2.heap.size, 3, none⟩ = some (.int .i64 cs) := hb3.cell 3
         clear hb3)
      | (go_at_call 32; refine (HLP.out _ hl3).mono ?_; rintro e w4 ⟨hl4, rfl⟩
         have hl34 := hl3.trans (hl4.mono hl3.size))
      | (go_at_call 26; refine (lives_any _).mono ?_; rintro e w5 ⟨rfl, hl5⟩
         have hl35 := hl34.trans (hl5.mono hl34.size)
         obtain ⟨hb5, ru, rv⟩ := HKB.out w5 hl35
         have y1 : w5.cell? ⟨w2.heap.size, 1, none⟩ = some (.slice (some ⟨gu, 0, none⟩) n n) := hb5.cell 1
         have y2 : w5.cell? ⟨w2.heap.size, 2, none⟩ = some (.slice (some ⟨gv, 0, none⟩) m m) := hb5.cell 2
         have y3 : w5.cell? ⟨w2.heap.size, 3, none⟩ = some (.int .i64 cs) := hb5.cell 3
         have y0 : w5.cell? ⟨w2.heap.size, 0, none⟩ = some (.slice (some ⟨gt, 0, none⟩) n n) := hb5.cell 0
         have RU := Lib.hid ru
         have RV := Lib.hid rv
         clear hb5 ru rv z0 z1 z2 z3))
    go_loopw [6, 7] (fun s t wr => ∃ i z : Nat, i ≤ n ∧ t = .int .i64 (i : Int) ∧ s = .int .i64 (sumN u i) ∧ wr = w5.drewN z) (fun _ t _ => n - (intOf t).toNat)
    case atStart => exact ⟨0, 0, Nat.zero_le _, rfl, rfl, rfl⟩
    case round =>
      obtain ⟨i, z, hi, rfl, rfl, rfl⟩ := hrel
      by_cases hlt : i < n
      · have hiI : (i : Int) < (n : Int) := by omega
        have cu := RU.out.int hlt
        have b1 := HBU.out (i + 1) hlt
        have e1 : sumN u (i + 1) = sumN u i + u i := rfl
        rw [e1] at b1
        have hwr : IntKind.i64.wrap (sumN u i + u i) = sumN u i + u i := wrapI (by omega) (by omega)
        have HE1 := Lib.hid e1
        clear b1 e1
        generalize sumN u i = su at *
        generalize u i = ui at *
        go_wp2_with (fail)
        go_roundw
        case rel => exact ⟨i + 1, _, by omega, by go_num, by rw [HE1.out], rfl⟩
        case measure => simp [intOf]; omega
      · obtain rfl : i = n := by omega
        go_wp2_with (fail)
        go_loopw [6, 8] (fun s t wr => ∃ k z : Nat, k ≤ m ∧ t = .int .i64 (k : Int) ∧ s = .int .i64 (sumN u i + sumN v k) ∧ wr = w5.drewN z) (fun _ t _ => m - (intOf t).toNat)
        case atStart => exact ⟨0, z, Nat.zero_le _, rfl, by simp [sumN], rfl⟩
        case round =>
          obtain ⟨k, y, hk, rfl, rfl, rfl⟩ := hrel
          by_cases hlk : k < m
          · have hkI : (k : Int) < (m : Int) := by omega
            have cv := RV.out.int hlk
            have b0 := HBU.out i (Nat.le_refl _)
            have b1 := HBV.out (k + 1) hlk
            have e1 : sumN v (k + 1) = sumN v k + v k := rfl
            rw [e1] at b1
            have hwr : IntKind.i64.wrap (sumN u i + sumN v k + v k) = sumN u i + sumN v k + v k := wrapI (by omega) (by omega)
            have HE1 := Lib.hid (show sumN u i + sumN v k + v k = sumN u i + sumN v (k + 1) by rw [e1]; omega)
            clear b0 b1 e1
            generalize hsv : sumN u i + sumN v k = sv at *
            generalize v k = vk at *
            go_wp2_with (fail)
            go_roundw
            case rel => exact ⟨k + 1, _, by omega, by go_num, by rw [HE1.out], rfl⟩
            case measure => simp [intOf]; omega
          · obtain rfl : k = m := by omega
            have hs := HSUM.out
            rw [← hs]
            have hld : Below (w2.alloc (Obj.cells #[.slice (some ⟨gt, 0, none⟩) i i, .slice (some ⟨gu, 0, none⟩) i i, .slice (some ⟨gv, 0, none⟩) k k, .int .i64 cs] 35)).heap.size (w2.alloc (Obj.cells #[.slice (some ⟨gt, 0, none⟩) i i, .slice (some ⟨gu, 0, none⟩) i i, .slice (some ⟨gv, 0, none⟩) k k, .int .i64 cs] 35)) (w5.drewN y) := below_drewN hl35 y
            clear hs HSUM
            go_wp2_with (go_at_call 33; refine (HMP.out _ hld).mono ?_; rintro e w7 ⟨hl7, rfl⟩
                         have hld7 := hld.trans (hl7.mono hld.size)
                         have v3 : w7.cell? ⟨w2.heap.size, 3, none⟩ = some (.int .i64 cs) := (HKB.out w7 hld7).1.cell 3)
            go_ret
            exact ⟨rfl, q1.trans (hld7.mono q1.size)⟩

end Go.Proofs.Ytncmfjncdhhjoaa
