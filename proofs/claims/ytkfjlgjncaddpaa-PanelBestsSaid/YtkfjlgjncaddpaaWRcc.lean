/- The reference's cuts: all that can be done with a rectangle, and what it is worth. -/
import Derived.Test.YtkfjlgjncaddpaaWRcu
import Derived.Test.YtkfjlgjncaddpaaWCho
import Derived.Deep.AppendLies
namespace Go.Proofs.Ytkfjlgjncaddpaa
open Go.RowKit

/-- The two lists as they grow. -/
structure CuM (B : Nat) (w wr : World) (l : List Cho) (v1 v2 : Value) : Prop where
  ow : wr.ownsRow B 73 2 v1 l.length (cc (l.map fun c => ⟨c.k, c.a⟩))
  oi : wr.ownsRow B 3 1 v2 l.length (is (l.map fun c => c.v))
  bel : Below B w wr
  siz : B ≤ wr.heap.size
/-- Offers by a table of values. -/
def offA2 (C : Nat → Nat → Int) (kerf i j n : Nat) : List Cho := (List.range n).map fun q => ⟨3, (q + 1 : Nat), pc C (q + 1 : Nat) j + pc C (i - (q + 1 : Nat) - kerf) j⟩
def offD2 (C : Nat → Nat → Int) (kerf i j n : Nat) : List Cho := (List.range n).map fun q => ⟨4, (q + 1 : Nat), pc C i (q + 1 : Nat) + pc C i (j - (q + 1 : Nat) - kerf)⟩
theorem offA2_succ (C : Nat → Nat → Int) (kerf i j n : Nat) : offA2 C kerf i j (n + 1) = offA2 C kerf i j n ++ [⟨3, (n + 1 : Nat), pc C (n + 1 : Nat) j + pc C (i - (n + 1 : Nat) - kerf) j⟩] := by simp [offA2, List.range_succ]
theorem offD2_succ (C : Nat → Nat → Int) (kerf i j n : Nat) : offD2 C kerf i j (n + 1) = offD2 C kerf i j n ++ [⟨4, (n + 1 : Nat), pc C i (n + 1 : Nat) + pc C i (j - (n + 1 : Nat) - kerf)⟩] := by simp [offD2, List.range_succ]
theorem own_kept {B T k n m : Nat} {w w' : World} {g c : Nat} {v : Value} {vs : List Value} (h : w.ownsRow B T k (.slice (some ⟨g, 0, none⟩) n c) m vs) (hg : w.grownBy w' v.ownBlock) (hne : some g ≠ v.ownBlock) : w'.ownsRow B T k (.slice (some ⟨g, 0, none⟩) n c) m vs :=
  h.kept hg (.inr hne)
theorem offS_len (ss : List Sh) (i j n : Nat) : (offS ss i j n).length ≤ 2 * n := by
  induction n with
  | zero => simp [offS]
  | succ n ih =>
    rw [offS_succ, List.length_append]
    have : (shO (ss.getD n sh0) n i j).length ≤ 2 := by unfold shO; split <;> split <;> simp
    omega
/-- What stands when both lists have grown by one. -/
structure CuR (B : Nat) (w wr : World) (l : List Cho) (N g1 c1 g2 c2 : Nat) : Prop where
  ow : wr.ownsRow B 73 2 (.slice (some ⟨g1, 0, none⟩) N c1) N (cc (l.map fun c => ⟨c.k, c.a⟩))
  oi : wr.ownsRow B 3 1 (.slice (some ⟨g2, 0, none⟩) N c2) N (is (l.map fun c => c.v))
  len : N = l.length
  ne : g1 ≠ g2
  bel : Below B w wr
  siz : B ≤ wr.heap.size
theorem CuR.keep {B : Nat} {w wr wr' : World} {l : List Cho} {N g1 c1 g2 c2 : Nat} (h : CuR B w wr l N g1 c1 g2 c2) (hb : Below wr.heap.size wr wr') : CuR B w wr' l N g1 c1 g2 c2 :=
  ⟨own_keep h.ow hb, own_keep h.oi hb, h.len, h.ne, below_on h.bel h.siz hb, Nat.le_trans h.siz hb.size⟩
theorem CuR.start (w : World) : CuR w.heap.size w ((w.alloc (.cells #[.int .i64 0, .int .i64 0] 73)).alloc (.cells #[.int .i64 0] 3)) [cho0] 1 w.heap.size 1 (w.heap.size + 1) 1 := by
  have b1 := below_new w (.cells #[.int .i64 0, .int .i64 0] 73)
  have b2 : Below w.heap.size (w.alloc (.cells #[.int .i64 0, .int .i64 0] 73)) ((w.alloc (.cells #[.int .i64 0, .int .i64 0] 73)).alloc (.cells #[.int .i64 0] 3)) := (Below.refl _ _).alloc (by simp) _
  have h1 : Blk 73 ((w.alloc (.cells #[.int .i64 0, .int .i64 0] 73)).alloc (.cells #[.int .i64 0] 3)) w.heap.size [.int .i64 0, .int .i64 0] := (Blk.new w 73 [.int .i64 0, .int .i64 0]).alloc _
  have h2 : Blk 3 ((w.alloc (.cells #[.int .i64 0, .int .i64 0] 73)).alloc (.cells #[.int .i64 0] 3)) (w.heap.size + 1) [.int .i64 0] := blk_new2 [.int .i64 0]
  refine ⟨hd_own ⟨_, _, rfl, Nat.le_refl _, Nat.le_refl _, by unfold maxLen; omega, rfl, [], rfl, h1⟩, hd_own ⟨_, _, rfl, by omega, Nat.le_refl _, by unfold maxLen; omega, rfl, [], rfl, h2⟩, rfl, by omega, b1.trans b2, by simp; omega⟩
theorem below_gr {B : Nat} {w w' : World} {row : Option Nat} (h : w.grownBy w' row) (hB : B ≤ w.heap.size) (hr : ∀ g, row = some g → B ≤ g) : Below B w w' :=
  ⟨h.os, h.tape, h.output, h.size, fun i hi => h.block i (by omega) (fun e => by have := hr i e.symm; omega)⟩
/-- Both appends, put together. -/
theorem CuR.two {B : Nat} {w wr w5 w6 : World} {l : List Cho} {N g1 c1 g2 c2 g5 c5 g6 c6 : Nat} {x : Cho} (h : CuR B w wr l N g1 c1 g2 c2)
    (o5 : w5.ownsRow B 73 2 (.slice (some ⟨g5, 0, none⟩) (N + 1) c5) (N + 1) (cc (l.map fun c => ⟨c.k, c.a⟩) ++ [.int .i64 x.k, .int .i64 x.a]))
    (gr5 : (wr.alloc (.cells #[.int .i64 x.k, .int .i64 x.a] 73)).grownBy w5 (some g1)) (at5 : some g1 = some g5 ∨ g5 = (wr.alloc (.cells #[.int .i64 x.k, .int .i64 x.a] 73)).heap.size) (lt5 : g5 < w5.heap.size)
    (o6 : w6.ownsRow B 3 1 (.slice (some ⟨g6, 0, none⟩) (N + 1) c6) (N + 1) (is (l.map fun c => c.v) ++ [.int .i64 x.v]))
    (gr6 : (w5.alloc (.cells #[.int .i64 x.v] 3)).grownBy w6 (some g2)) (at6 : some g2 = some g6 ∨ g6 = (w5.alloc (.cells #[.int .i64 x.v] 3)).heap.size) : CuR B w w6 (l ++ [x]) (N + 1) g5 c5 g6 c6 := by
  have hs := h.siz
  have hg2 : g2 < wr.heap.size := own_ltS h.oi g2 rfl
  have hg1 : g1 < wr.heap.size := own_ltS h.ow g1 rfl
  have s1 : (wr.alloc (.cells #[.int .i64 x.k, .int .i64 x.a] 73)).heap.size = wr.heap.size + 1 := by simp
  have s2 : (w5.alloc (.cells #[.int .i64 x.v] 3)).heap.size = w5.heap.size + 1 := by simp
  have s3 := gr5.size
  have s4 := gr6.size
  have n52 : g5 ≠ g2 := by
    rcases at5 with e | e
    · injection e with e; have := h.ne; omega
    · omega
  have hB1 : B ≤ (wr.alloc (.cells #[.int .i64 x.k, .int .i64 x.a] 73)).heap.size := by have := h.siz; omega
  have b1 : Below B wr (wr.alloc (.cells #[.int .i64 x.k, .int .i64 x.a] 73)) := (Below.refl _ _).alloc h.siz _
  have b2 := below_gr gr5 hB1 (fun g e => by injection e with e; have := own_ge h.ow g1 rfl; omega)
  have b3 : Below B w5 (w5.alloc (.cells #[.int .i64 x.v] 3)) := (Below.refl _ _).alloc (by omega) _
  have hB5 : B ≤ w5.heap.size := by omega
  have b4 := below_gr gr6 (Nat.le_trans hB5 (by simp)) (fun g e => by injection e with e; have := own_ge h.oi g2 rfl; omega)
  refine ⟨?_, ?_, by rw [h.len]; simp, ?_, h.bel.trans (b1.trans (b2.trans (b3.trans b4))), Nat.le_trans hB5 (Nat.le_trans (by simp) s4)⟩
  · rw [List.map_append, cc_append]
    exact own_kept (own_keep o5 (below_new w5 _)) (v := .slice (some ⟨g2, 0, none⟩) 0 0) gr6 (by simp only [Value.ownBlock, ne_eq, Option.some.injEq]; exact n52)
  · rw [List.map_append, is_append]
    exact o6
  · rcases at6 with e | e
    · injection e with e; omega
    · omega

theorem sh_cells {w : World} {g off : Nat} {ss : List Sh} {m : Nat} (h : ShAt w (some ⟨g, off, none⟩) ss) (hm : m < ss.length) : w.cell? ⟨g, off + m * 4, none⟩ = some (.int .i64 (ss.getD m sh0).w) ∧ w.cell? ⟨g, off + m * 4 + 1, none⟩ = some (.int .i64 (ss.getD m sh0).h) ∧ w.cell? ⟨g, off + m * 4 + 2, none⟩ = some (.int .i64 (ss.getD m sh0).v) ∧ w.cell? ⟨g, off + m * 4 + 3, none⟩ = some (.bool (ss.getD m sh0).t) := by
  obtain ⟨g', off', e, hg, c0, c1, c2, c3⟩ := ShAt.at_ h hm
  injection e with e
  injection e with e1 e2
  subst e1 e2
  exact ⟨c0, c1, c2, c3⟩
def CutsPost (B : Nat) (w : World) (l : List Cho) (e : Ending) (w' : World) : Prop := ∃ g1 c1 g2 c2, e = .returned (.tuple #[.slice (some ⟨g1, 0, none⟩) l.length c1, .slice (some ⟨g2, 0, none⟩) l.length c2]) ∧ CuAt w' (some ⟨g1, 0, none⟩) (l.map fun c => ⟨c.k, c.a⟩) ∧ Ints w' (some ⟨g2, 0, none⟩) (l.map fun c => c.v) ∧ Below B w w' ∧ B ≤ g1 ∧ B ≤ g2
theorem asV_f (s : Sh) (a b : Int) : asV s a b false = if isS s a b = true then s.v else -1 := by unfold asV; simp
theorem asV_t (s : Sh) (a b : Int) : asV s a b true = if isT s a b = true then s.v else -1 := by unfold asV; simp
/-- What the first append leaves alone. -/
theorem CuR.mid {B : Nat} {w wr w5 : World} {l : List Cho} {N g1 c1 g2 c2 : Nat} {o : Obj} (h : CuR B w wr l N g1 c1 g2 c2) (gr5 : (wr.alloc o).grownBy w5 (some g1)) : Below B w w5 := by
  have hB1 : B ≤ (wr.alloc o).heap.size := by have := h.siz; simp; omega
  exact h.bel.trans (((Below.refl _ _).alloc h.siz _).trans (below_gr gr5 hB1 (fun g e => by injection e with e; have := own_ge h.ow g1 rfl; omega)))
theorem own_valsR {B T k n g c : Nat} {w : World} {vs : List Value} (h : w.ownsRow B T k (.slice (some ⟨g, 0, none⟩) n c) n vs) : Vals w (some ⟨g, 0, none⟩) vs := by
  obtain ⟨g', cap, e, _, _, _, hv⟩ := (own_hd h (by simp)).vals
  simp only [Value.slice.injEq, Option.some.injEq, Addr.mk.injEq] at e
  obtain ⟨⟨rfl, _, _⟩, _⟩ := e
  exact hv
theorem CuR.post {B : Nat} {w wr : World} {l : List Cho} {N g1 c1 g2 c2 : Nat} (h : CuR B w wr l N g1 c1 g2 c2) : CutsPost B w l (.returned (.tuple #[.slice (some ⟨g1, 0, none⟩) N c1, .slice (some ⟨g2, 0, none⟩) N c2])) wr :=
  ⟨g1, c1, g2, c2, by rw [h.len], own_valsR h.ow, own_valsR h.oi, h.bel, own_ge h.ow g1 rfl, own_ge h.oi g2 rfl⟩
set_option maxHeartbeats 4000000 in
set_option maxRecDepth 100000 in
theorem refCuts_any (g n ct H : Nat) (gs : Nat → Nat) (C : Nat → Nat → Int) (i j kerf : Nat) (A : Option Addr) (L cp : Nat) (ss : List Sh) (w : World) (ht : TbR w g n H gs C) (hA : ShAt w A ss) (hL : L = ss.length) (hL16 : L ≤ 16) (hok : OkS ss) (hi : i ≤ n) (hj : j ≤ H) (hn : n ≤ 64) (hH : H ≤ 64) (hi1 : 1 ≤ i) (hj1 : 1 ≤ j) (hk : kerf ≤ 8)
    (hC : ∀ a b : Int, a ≤ i → b ≤ j → a + b < i + j → 0 ≤ pc C a b ∧ pc C a b ≤ 4225000000) :
    Calls Try.prog 43 #[.slice (some ⟨g, 0, none⟩) n ct, .int .i64 (i : Int), .int .i64 (j : Int), .int .i64 (kerf : Int), .slice A L cp] w (CutsPost w.heap.size w (cho0 :: (offS ss i j ss.length ++ (offA2 C kerf i j (i - 1) ++ offD2 C kerf i j (j - 1))))) := by
  obtain ⟨i0, hi0, hz0, hz1, hz2⟩ := info_parts infoCut
  obtain ⟨j0, hj0, hy0, hy1, hy2⟩ := info_parts infoInt
  have HT := Lib.hid ht
  have HA := Lib.hid hA
  have HL := Lib.hid hL
  have HOK := Lib.hid hok
  have HC := Lib.hid hC
  have HS0 := Lib.hid (CuR.start w)
  obtain ⟨B, hB⟩ : ∃ B, B = w.heap.size := ⟨_, rfl⟩
  have HB := Lib.hid hB
  clear ht hA hL hok hC hB
  go_enter Try.func43, Try.ntmps43
  go_upto_region 3 with (fail)
  obtain ⟨q1, hq1⟩ : ∃ q1, q1 = w.heap.size := ⟨_, rfl⟩
  obtain ⟨q2, hq2⟩ : ∃ q2, q2 = w.heap.size + 1 := ⟨_, rfl⟩
  replace HS0 : Hid (CuR B w ((w.alloc (.cells #[.int .i64 0, .int .i64 0] 73)).alloc (.cells #[.int .i64 0] 3)) [cho0] 1 q1 1 q2 1) := Lib.hid (by rw [HB.out, hq1, hq2]; exact HS0.out)
  rw [← hq2, ← hq1]
  clear hq1 hq2
  generalize (w.alloc (.cells #[.int .i64 0, .int .i64 0] 73)).alloc (.cells #[.int .i64 0] 3) = W1 at *
  go_loopw [12, 13, 14, 15, 16] (fun v1 v2 t _ _ wr => ∃ (m N g1 c1 g2 c2 : Nat), m ≤ L ∧ t = .int .i64 (m : Int) ∧ v1 = .slice (some ⟨g1, 0, none⟩) N c1 ∧ v2 = .slice (some ⟨g2, 0, none⟩) N c2 ∧ N ≤ 1 + 2 * m ∧ Hid (CuR B w wr (cho0 :: offS ss i j m) N g1 c1 g2 c2)) (fun _ _ t _ _ _ => L - (intOf t).toNat)
  case atStart => exact ⟨0, 1, q1, 1, q2, 1, Nat.zero_le _, rfl, rfl, rfl, by omega, HS0⟩
  case round =>
    clear HS0
    obtain ⟨m, N, g1, c1, g2, c2, hm, rfl, rfl, rfl, hN, HR⟩ := hrel
    by_cases hlt : m < L
    · have hlt2 : (m : Int) < (L : Int) := by omega
      have hml : m < ss.length := by have := HL.out; omega
      have hbw : Below w.heap.size w wr := HB.out ▸ HR.out.bel
      obtain ⟨ga, off, rfl, hg, d0, d1, d2, d3⟩ := ShAt.at_ (HA.out.keep hbw) (i := m) hml
      have hnx := offS_succ ss i j m
      obtain ⟨_, _, _, _, hv0, _⟩ := HOK.out _ (getD_mem hml)
      have has1 := fun V => as_any (i : Int) (j : Int) (ss.getD m sh0) false V
      have has2 := fun V => as_any (i : Int) (j : Int) (ss.getD m sh0) true V
      simp only [asV_f, asV_t] at has1 has2
      have hcl : ∀ V, Below wr.heap.size wr V → V.cell? ⟨ga, off + m * 4, none⟩ = some (.int .i64 (ss.getD m sh0).w) ∧ V.cell? ⟨ga, off + m * 4 + 1, none⟩ = some (.int .i64 (ss.getD m sh0).h) ∧ V.cell? ⟨ga, off + m * 4 + 2, none⟩ = some (.int .i64 (ss.getD m sh0).v) ∧ V.cell? ⟨ga, off + m * 4 + 3, none⟩ = some (.bool (ss.getD m sh0).t) := fun V hV =>
        ⟨(hV.cell (p := ⟨ga, off + m * 4, none⟩) hg).trans d0, (hV.cell (p := ⟨ga, off + m * 4 + 1, none⟩) hg).trans d1, (hV.cell (p := ⟨ga, off + m * 4 + 2, none⟩) hg).trans d2, (hV.cell (p := ⟨ga, off + m * 4 + 3, none⟩) hg).trans d3⟩
      have hsh := fun V (hV : Below w.heap.size w V) => sh_cells (HA.out.keep hV) hml
      unfold shO at hnx
      generalize ss.getD m sh0 = s at *
      obtain ⟨sw, sh, sv, st⟩ := s
      simp only at d0 d1 d2 d3 hv0 hcl hnx has1 has2 hsh
      unfold shV at has1 has2
      have HNX := Lib.hid hnx
      have HCL := Lib.hid hcl
      have HSH : Hid (∀ V, Below w.heap.size w V → V.cell? ⟨ga, off + m * 4, none⟩ = some (.int .i64 sw) ∧ V.cell? ⟨ga, off + m * 4 + 1, none⟩ = some (.int .i64 sh) ∧ V.cell? ⟨ga, off + m * 4 + 2, none⟩ = some (.int .i64 sv) ∧ V.cell? ⟨ga, off + m * 4 + 3, none⟩ = some (.bool st)) := Lib.hid hsh
      clear hnx hcl hbw hsh
      -- ROUND
      obtain ⟨b1, hb1⟩ : ∃ b1, b1 = isS ⟨sw, sh, sv, st⟩ (i : Int) (j : Int) := ⟨_, rfl⟩
      obtain ⟨b2, hb2⟩ : ∃ b2, b2 = isT ⟨sw, sh, sv, st⟩ (i : Int) (j : Int) := ⟨_, rfl⟩
      rw [← hb1, ← hb2] at HNX
      rw [← hb1] at has1
      rw [← hb2] at has2
      have HS1 := Lib.hid has1
      have HS2 := Lib.hid has2
      have dv : decide (0 ≤ sv) = true := by simpa using hv0
      clear hb1 hb2 has1 has2
      cases b1 with
      | false =>
        simp only [if_neg (show ¬ false = true by decide), List.nil_append] at HS1 HNX
        go_upto_region 8 with (go_at_call 49; refine (HS1.out _).mono ?_; rintro e w1 ⟨rfl, hb1⟩)
        have HR1 := Lib.hid (HR.out.keep hb1)
        clear d0 d1 d2 d3 HR
        obtain ⟨d0, d1, d2, d3⟩ := HCL.out _ hb1
        cases b2 with
        | false =>
          simp only [if_neg (show ¬ false = true by decide), List.append_nil] at HS2 HNX
          go_wp2_with (go_at_call 49; refine (HS2.out _).mono ?_; rintro e w2 ⟨rfl, hb2⟩)
          have HRZ := Lib.hid (HR1.out.keep hb2)
          go_roundw
          case rel =>
            refine ⟨m + 1, _, _, _, _, _, by omega, by go_num, rfl, rfl, ?_, Lib.hid ?_⟩
            · omega
            · rw [HNX.out]; simpa [List.append_assoc] using HRZ.out
          case measure => simp [intOf]; omega
        | true =>
          simp only [if_pos] at HS2 HNX
          go_upto_region 10 with (go_at_call 49; refine (HS2.out _).mono ?_; rintro e w2 ⟨rfl, hb2⟩)
          have HRY := Lib.hid (HR1.out.keep hb2)
          clear d0 d1 d2 d3
          have hbnb := below_new w2 (.cells #[.int .i64 2, .int .i64 (m : Int)] 73)
          have HO1b := Lib.hid (own_keep HRY.out.ow hbnb)
          have HO2b := Lib.hid (own_keep HRY.out.oi hbnb)
          have HN1b := Lib.hid ((Blk.new w2 73 [.int .i64 2, .int .i64 (m : Int)]).vals0)
          have hB1b : B ≤ (w2.alloc (.cells #[.int .i64 2, .int .i64 (m : Int)] 73)).heap.size := Nat.le_trans HRY.out.siz hbnb.size
          have HONb := Lib.hid (cc_one [⟨2, (m : Int)⟩])
          have HOIb : Hid (∀ u ∈ [Value.int .i64 (sv)], u.oneCell' = true) := Lib.hid (fun u hu => by simp at hu; subst hu; rfl)
          have HNEb := Lib.hid HRY.out.ne
          have hmxb : N + 1 ≤ maxLen := by unfold maxLen; omega
          have hbyAb : (N + 1) * 16 ≤ 140737488355328 := by omega
          have hbyBb : (N + 1) * 8 ≤ 140737488355328 := by omega
          clear hbnb
          go_wp2_with (first | (at_builtin; refine wpList_append_lies _ rfl _ _ 36 rfl B 73 i0 zCut 2 16 Try.underlying36 hi0 hz0 hz1 hz2 rfl (by decide) (.slice (some ⟨g1, 0, none⟩) (N) c1) (N) _ rfl HO1b.out ⟨w2.heap.size, 0, none⟩ 1 _ [.int .i64 2, .int .i64 (m : Int)] rfl rfl (vals_cells HN1b.out) HONb.out (by decide) hmxb hbyAb hB1b _ rfl ?_; intro g5b c5b w5b hown5b hgr5b hat5b hlt5b; have HO2bb := Lib.hid (own_keep (own_kept (v := .slice (some ⟨g1, 0, none⟩) (N) c1) HO2b.out hgr5b (by simp only [Value.ownBlock, ne_eq, Option.some.injEq]; exact HNEb.out.symm)) (below_new w5b (.cells #[.int .i64 (sv)] 3))); have HN2b := Lib.hid ((Blk.new w5b 3 [Value.int .i64 (sv)]).vals0); have hB2b : B ≤ (w5b.alloc (.cells #[.int .i64 (sv)] 3)).heap.size := Nat.le_trans hB1b (Nat.le_trans hgr5b.size (by simp)); have HG5b := Lib.hid hgr5b; have HA5b := Lib.hid hat5b; have HL5b := Lib.hid hlt5b; have HW5b := Lib.hid hown5b; clear hown5b hgr5b hat5b hlt5b) | (at_builtin; refine wpList_append_lies _ rfl _ _ 34 rfl B 3 j0 zInt 1 8 Try.underlying34 hj0 hy0 hy1 hy2 rfl (by decide) (.slice (some ⟨g2, 0, none⟩) (N) c2) (N) _ rfl HO2bb.out ⟨w5b.heap.size, 0, none⟩ 1 _ [Value.int .i64 (sv)] rfl rfl (vals_cells HN2b.out) HOIb.out (by decide) hmxb hbyBb hB2b _ rfl ?_; intro g6b c6b w6b hown6b hgr6b hat6b hlt6b))
          have HRZ := Lib.hid (HRY.out.two (x := ⟨2, (m : Int), sv⟩) HW5b.out HG5b.out HA5b.out HL5b.out hown6b hgr6b hat6b)
          clear HO1b HO2b HN1b hB1b HONb HOIb HNEb hmxb hbyAb hbyBb HO2bb HN2b hB2b HG5b HA5b HL5b HW5b hown6b hgr6b hat6b hlt6b
          go_roundw
          case rel =>
            refine ⟨m + 1, _, _, _, _, _, by omega, by go_num, rfl, rfl, ?_, Lib.hid ?_⟩
            · omega
            · rw [HNX.out]; simpa [List.append_assoc] using HRZ.out
          case measure => simp [intOf]; omega
      | true =>
        simp only [if_pos] at HS1 HNX
        go_upto_region 7 with (go_at_call 49; refine (HS1.out _).mono ?_; rintro e w1 ⟨rfl, hb1⟩)
        have HR1 := Lib.hid (HR.out.keep hb1)
        clear d0 d1 d2 d3 HR
        have hbna := below_new w1 (.cells #[.int .i64 1, .int .i64 (m : Int)] 73)
        have HO1a := Lib.hid (own_keep HR1.out.ow hbna)
        have HO2a := Lib.hid (own_keep HR1.out.oi hbna)
        have HN1a := Lib.hid ((Blk.new w1 73 [.int .i64 1, .int .i64 (m : Int)]).vals0)
        have hB1a : B ≤ (w1.alloc (.cells #[.int .i64 1, .int .i64 (m : Int)] 73)).heap.size := Nat.le_trans HR1.out.siz hbna.size
        have HONa := Lib.hid (cc_one [⟨1, (m : Int)⟩])
        have HOIa : Hid (∀ u ∈ [Value.int .i64 (sv)], u.oneCell' = true) := Lib.hid (fun u hu => by simp at hu; subst hu; rfl)
        have HNEa := Lib.hid HR1.out.ne
        have hmxa : N + 1 ≤ maxLen := by unfold maxLen; omega
        have hbyAa : (N + 1) * 16 ≤ 140737488355328 := by omega
        have hbyBa : (N + 1) * 8 ≤ 140737488355328 := by omega
        clear hbna
        go_upto_region 8 with (first | (at_builtin; refine wpList_append_lies _ rfl _ _ 36 rfl B 73 i0 zCut 2 16 Try.underlying36 hi0 hz0 hz1 hz2 rfl (by decide) (.slice (some ⟨g1, 0, none⟩) (N) c1) (N) _ rfl HO1a.out ⟨w1.heap.size, 0, none⟩ 1 _ [.int .i64 1, .int .i64 (m : Int)] rfl rfl (vals_cells HN1a.out) HONa.out (by decide) hmxa hbyAa hB1a _ rfl ?_; intro g5a c5a w5a hown5a hgr5a hat5a hlt5a; have HO2ba := Lib.hid (own_keep (own_kept (v := .slice (some ⟨g1, 0, none⟩) (N) c1) HO2a.out hgr5a (by simp only [Value.ownBlock, ne_eq, Option.some.injEq]; exact HNEa.out.symm)) (below_new w5a (.cells #[.int .i64 (sv)] 3))); have HN2a := Lib.hid ((Blk.new w5a 3 [Value.int .i64 (sv)]).vals0); have hB2a : B ≤ (w5a.alloc (.cells #[.int .i64 (sv)] 3)).heap.size := Nat.le_trans hB1a (Nat.le_trans hgr5a.size (by simp)); have HG5a := Lib.hid hgr5a; have HA5a := Lib.hid hat5a; have HL5a := Lib.hid hlt5a; have HW5a := Lib.hid hown5a; clear hown5a hgr5a hat5a hlt5a) | (at_builtin; refine wpList_append_lies _ rfl _ _ 34 rfl B 3 j0 zInt 1 8 Try.underlying34 hj0 hy0 hy1 hy2 rfl (by decide) (.slice (some ⟨g2, 0, none⟩) (N) c2) (N) _ rfl HO2ba.out ⟨w5a.heap.size, 0, none⟩ 1 _ [Value.int .i64 (sv)] rfl rfl (vals_cells HN2a.out) HOIa.out (by decide) hmxa hbyBa hB2a _ rfl ?_; intro g6a c6a w6a hown6a hgr6a hat6a hlt6a))
        have HR2 := Lib.hid (HR1.out.two (x := ⟨1, (m : Int), sv⟩) HW5a.out HG5a.out HA5a.out HL5a.out hown6a hgr6a hat6a)
        clear HO1a HO2a HN1a hB1a HONa HOIa HNEa hmxa hbyAa hbyBa HO2ba HN2a hB2a HG5a HA5a HL5a HW5a hown6a hgr6a hat6a hlt6a
        obtain ⟨d0, d1, d2, d3⟩ : w6a.cell? ⟨ga, off + m * 4, none⟩ = some (.int .i64 sw) ∧ w6a.cell? ⟨ga, off + m * 4 + 1, none⟩ = some (.int .i64 sh) ∧ w6a.cell? ⟨ga, off + m * 4 + 2, none⟩ = some (.int .i64 sv) ∧ w6a.cell? ⟨ga, off + m * 4 + 3, none⟩ = some (.bool st) := HSH.out w6a (HB.out ▸ HR2.out.bel)
        cases b2 with
        | false =>
          simp only [if_neg (show ¬ false = true by decide), List.append_nil] at HS2 HNX
          go_wp2_with (go_at_call 49; refine (HS2.out _).mono ?_; rintro e w2 ⟨rfl, hb2⟩)
          have HRZ := Lib.hid (HR2.out.keep hb2)
          go_roundw
          case rel =>
            refine ⟨m + 1, _, _, _, _, _, by omega, by go_num, rfl, rfl, ?_, Lib.hid ?_⟩
            · omega
            · rw [HNX.out]; simpa [List.append_assoc] using HRZ.out
          case measure => simp [intOf]; omega
        | true =>
          simp only [if_pos] at HS2 HNX
          go_upto_region 10 with (go_at_call 49; refine (HS2.out _).mono ?_; rintro e w2 ⟨rfl, hb2⟩)
          have HRY := Lib.hid (HR2.out.keep hb2)
          clear d0 d1 d2 d3
          have hbnb := below_new w2 (.cells #[.int .i64 2, .int .i64 (m : Int)] 73)
          have HO1b := Lib.hid (own_keep HRY.out.ow hbnb)
          have HO2b := Lib.hid (own_keep HRY.out.oi hbnb)
          have HN1b := Lib.hid ((Blk.new w2 73 [.int .i64 2, .int .i64 (m : Int)]).vals0)
          have hB1b : B ≤ (w2.alloc (.cells #[.int .i64 2, .int .i64 (m : Int)] 73)).heap.size := Nat.le_trans HRY.out.siz hbnb.size
          have HONb := Lib.hid (cc_one [⟨2, (m : Int)⟩])
          have HOIb : Hid (∀ u ∈ [Value.int .i64 (sv)], u.oneCell' = true) := Lib.hid (fun u hu => by simp at hu; subst hu; rfl)
          have HNEb := Lib.hid HRY.out.ne
          have hmxb : N + 1 + 1 ≤ maxLen := by unfold maxLen; omega
          have hbyAb : (N + 1 + 1) * 16 ≤ 140737488355328 := by omega
          have hbyBb : (N + 1 + 1) * 8 ≤ 140737488355328 := by omega
          clear hbnb
          go_wp2_with (first | (at_builtin; refine wpList_append_lies _ rfl _ _ 36 rfl B 73 i0 zCut 2 16 Try.underlying36 hi0 hz0 hz1 hz2 rfl (by decide) (.slice (some ⟨g5a, 0, none⟩) (N + 1) c5a) (N + 1) _ rfl HO1b.out ⟨w2.heap.size, 0, none⟩ 1 _ [.int .i64 2, .int .i64 (m : Int)] rfl rfl (vals_cells HN1b.out) HONb.out (by decide) hmxb hbyAb hB1b _ rfl ?_; intro g5b c5b w5b hown5b hgr5b hat5b hlt5b; have HO2bb := Lib.hid (own_keep (own_kept (v := .slice (some ⟨g5a, 0, none⟩) (N + 1) c5a) HO2b.out hgr5b (by simp only [Value.ownBlock, ne_eq, Option.some.injEq]; exact HNEb.out.symm)) (below_new w5b (.cells #[.int .i64 (sv)] 3))); have HN2b := Lib.hid ((Blk.new w5b 3 [Value.int .i64 (sv)]).vals0); have hB2b : B ≤ (w5b.alloc (.cells #[.int .i64 (sv)] 3)).heap.size := Nat.le_trans hB1b (Nat.le_trans hgr5b.size (by simp)); have HG5b := Lib.hid hgr5b; have HA5b := Lib.hid hat5b; have HL5b := Lib.hid hlt5b; have HW5b := Lib.hid hown5b; clear hown5b hgr5b hat5b hlt5b) | (at_builtin; refine wpList_append_lies _ rfl _ _ 34 rfl B 3 j0 zInt 1 8 Try.underlying34 hj0 hy0 hy1 hy2 rfl (by decide) (.slice (some ⟨g6a, 0, none⟩) (N + 1) c6a) (N + 1) _ rfl HO2bb.out ⟨w5b.heap.size, 0, none⟩ 1 _ [Value.int .i64 (sv)] rfl rfl (vals_cells HN2b.out) HOIb.out (by decide) hmxb hbyBb hB2b _ rfl ?_; intro g6b c6b w6b hown6b hgr6b hat6b hlt6b))
          have HRZ := Lib.hid (HRY.out.two (x := ⟨2, (m : Int), sv⟩) HW5b.out HG5b.out HA5b.out HL5b.out hown6b hgr6b hat6b)
          clear HO1b HO2b HN1b hB1b HONb HOIb HNEb hmxb hbyAb hbyBb HO2bb HN2b hB2b HG5b HA5b HL5b HW5b hown6b hgr6b hat6b hlt6b
          go_roundw
          case rel =>
            refine ⟨m + 1, _, _, _, _, _, by omega, by go_num, rfl, rfl, ?_, Lib.hid ?_⟩
            · omega
            · rw [HNX.out]; simpa [List.append_assoc] using HRZ.out
          case measure => simp [intOf]; omega
    · skip
      -- LOOP2
      obtain rfl : m = L := by omega
      have hr := HR.out
      rw [HL.out] at hr
      obtain ⟨l0, hl0⟩ : ∃ l0, l0 = cho0 :: offS ss i j ss.length := ⟨_, rfl⟩
      rw [← hl0] at hr
      have HL0 := Lib.hid hl0
      have HR0 := Lib.hid hr
      have hN0 : N ≤ 33 := by omega
      clear hl0 hr HR
      go_upto_region 12 with (fail)
      go_loopw [12, 13, 17] (fun v1 v2 t wr => ∃ (m N g1 c1 g2 c2 : Nat), m ≤ i - 1 ∧ t = .int .i64 ((m + 1 : Nat) : Int) ∧ v1 = .slice (some ⟨g1, 0, none⟩) N c1 ∧ v2 = .slice (some ⟨g2, 0, none⟩) N c2 ∧ N ≤ 33 + m ∧ Hid (CuR B w wr (l0 ++ offA2 C kerf i j m) N g1 c1 g2 c2)) (fun _ _ t _ => i - (intOf t).toNat)
      case atStart => exact ⟨0, N, g1, c1, g2, c2, Nat.zero_le _, rfl, rfl, rfl, by omega, Lib.hid (by simpa [offA2] using HR0.out)⟩
      case round =>
        clear HR0
        obtain ⟨m2, N2, g3, c3, g4, c4, hmi, rfl, rfl, rfl, hN2, HR⟩ := hrel
        obtain ⟨x, hx⟩ : ∃ x : Nat, x = m2 + 1 := ⟨_, rfl⟩
        rw [← hx]
        by_cases hlt : x < i
        · have hlt3 : (x : Int) < (i : Int) := by omega
          have hnx := offA2_succ C kerf i j m2
          rw [← hx] at hnx
          have q1 := HC.out (x : Int) (j : Int) (by omega) (by omega) (by omega)
          have q2 := HC.out ((i : Int) - (x : Int) - (kerf : Int)) (j : Int) (by omega) (by omega) (by omega)
          obtain ⟨u1, hu1⟩ : ∃ u, u = pc C (x : Int) (j : Int) := ⟨_, rfl⟩
          obtain ⟨u2, hu2⟩ : ∃ u, u = pc C ((i : Int) - (x : Int) - (kerf : Int)) (j : Int) := ⟨_, rfl⟩
          rw [← hu1] at q1
          rw [← hu2] at q2
          rw [← hu1, ← hu2] at hnx
          have hp1 : ∀ W, Below w.heap.size w W → Calls Try.prog 54 #[.slice (some ⟨g, 0, none⟩) n ct, .int .i64 (x : Int), .int .i64 (j : Int)] W fun e w' => e = .returned (.int .i64 u1) ∧ W = w' := fun W hW => by
            rw [hu1]
            exact part_any g n ct H gs C (x : Int) (j : Int) W (HT.out.keep hW) (by omega) (by omega) (by omega) (by omega) (by omega) (by omega)
          have hp2 : ∀ W, Below w.heap.size w W → Calls Try.prog 54 #[.slice (some ⟨g, 0, none⟩) n ct, .int .i64 ((i : Int) - (x : Int) - (kerf : Int)), .int .i64 (j : Int)] W fun e w' => e = .returned (.int .i64 u2) ∧ W = w' := fun W hW => by
            rw [hu2]
            exact part_any g n ct H gs C ((i : Int) - (x : Int) - (kerf : Int)) (j : Int) W (HT.out.keep hW) (by omega) (by omega) (by omega) (by omega) (by omega) (by omega)
          have e1 : IntKind.i64.wrap ((i : Int) - (x : Int)) = (i : Int) - (x : Int) := wrapI (by omega) (by omega)
          have e2 : IntKind.i64.wrap ((i : Int) - (x : Int) - (kerf : Int)) = (i : Int) - (x : Int) - (kerf : Int) := wrapI (by omega) (by omega)
          have e3 : IntKind.i64.wrap (u1 + u2) = u1 + u2 := wrapI (by omega) (by omega)
          have HNX := Lib.hid hnx
          have HP1 := Lib.hid hp1
          have HP2 := Lib.hid hp2
          have HX := Lib.hid hx
          clear hnx hp1 hp2 hu1 hu2 q1 q2 hx
          have hbn := below_new wr (.cells #[.int .i64 3, .int .i64 (x : Int)] 73)
          have HO1 := Lib.hid (own_keep HR.out.ow hbn)
          have HO2 := Lib.hid (own_keep HR.out.oi hbn)
          have HN1 := Lib.hid ((Blk.new wr 73 [.int .i64 3, .int .i64 (x : Int)]).vals0)
          have hB1 : B ≤ (wr.alloc (.cells #[.int .i64 3, .int .i64 (x : Int)] 73)).heap.size := Nat.le_trans HR.out.siz hbn.size
          have HON := Lib.hid (cc_one [⟨3, (x : Int)⟩])
          have HOI : Hid (∀ u ∈ [Value.int .i64 (u1 + u2)], u.oneCell' = true) := Lib.hid (fun u hu => by simp at hu; subst hu; rfl)
          have HNE := Lib.hid HR.out.ne
          have hmx : N2 + 1 ≤ maxLen := by unfold maxLen; omega
          have hbyA : (N2 + 1) * 16 ≤ 140737488355328 := by omega
          have hbyB : (N2 + 1) * 8 ≤ 140737488355328 := by omega
          clear hbn
          go_wp2_with (first | (at_builtin; refine wpList_append_lies _ rfl _ _ 36 rfl B 73 i0 zCut 2 16 Try.underlying36 hi0 hz0 hz1 hz2 rfl (by decide) (.slice (some ⟨g3, 0, none⟩) N2 c3) N2 _ rfl HO1.out ⟨wr.heap.size, 0, none⟩ 1 _ [.int .i64 3, .int .i64 (x : Int)] rfl rfl (vals_cells HN1.out) HON.out (by decide) hmx hbyA hB1 _ rfl ?_; intro g5 c5 w5 hown5 hgr5 hat5 hlt5; have HM5 := Lib.hid (HB.out ▸ CuR.mid HR.out hgr5); have HO2b := Lib.hid (own_keep (own_kept (v := .slice (some ⟨g3, 0, none⟩) N2 c3) HO2.out hgr5 (by simp only [Value.ownBlock, ne_eq, Option.some.injEq]; exact HNE.out.symm)) (below_new w5 (.cells #[.int .i64 (u1 + u2)] 3))); have HN2 := Lib.hid ((Blk.new w5 3 [Value.int .i64 (u1 + u2)]).vals0); have hB2 : B ≤ (w5.alloc (.cells #[.int .i64 (u1 + u2)] 3)).heap.size := Nat.le_trans hB1 (Nat.le_trans hgr5.size (by simp)); have HG5 := Lib.hid hgr5; have HA5 := Lib.hid hat5; have HL5 := Lib.hid hlt5; have HW5 := Lib.hid hown5; clear hown5 hgr5 hat5 hlt5) | (go_at_call 54; (with_reducible refine (HP1.out _ HM5.out).mono ?_); rintro e w2 ⟨rfl, rfl⟩) | (go_at_call 54; (with_reducible refine (HP2.out _ HM5.out).mono ?_); rintro e w3 ⟨rfl, rfl⟩) | (at_builtin; refine wpList_append_lies _ rfl _ _ 34 rfl B 3 j0 zInt 1 8 Try.underlying34 hj0 hy0 hy1 hy2 rfl (by decide) (.slice (some ⟨g4, 0, none⟩) N2 c4) N2 _ rfl HO2b.out ⟨w5.heap.size, 0, none⟩ 1 _ [Value.int .i64 (u1 + u2)] rfl rfl (vals_cells HN2.out) HOI.out (by decide) hmx hbyB hB2 _ rfl ?_; intro g6 c6 w6 hown6 hgr6 hat6 hlt6))
          have HRZ := Lib.hid (HR.out.two (x := ⟨3, (x : Int), u1 + u2⟩) HW5.out HG5.out HA5.out HL5.out hown6 hgr6 hat6)
          clear HO1 HO2 HN1 hB1 HON HOI HNE hmx hbyA hbyB HO2b HN2 hB2 HG5 HA5 HL5 HW5 hown6 hgr6 hat6 hlt6 HM5 HP1 HP2 e1 e2 e3
          go_roundw
          case rel =>
            have hx := HX.out
            refine ⟨x, _, _, _, _, _, by omega, by go_num, rfl, rfl, ?_, Lib.hid ?_⟩
            · omega
            · rw [HNX.out]; simpa [List.append_assoc] using HRZ.out
          case measure => simp [intOf]; omega
        · obtain rfl : m2 = i - 1 := by omega
          have hr := HR.out
          obtain ⟨l1, hl1⟩ : ∃ l1, l1 = l0 ++ offA2 C kerf i j (i - 1) := ⟨_, rfl⟩
          rw [← hl1] at hr
          have HL1 := Lib.hid hl1
          have HR0 := Lib.hid hr
          have hlt3 : ¬ (x : Int) < (i : Int) := by omega
          have hN1 : N2 ≤ 97 := by omega
          clear hl1 hr HR
          go_upto_region 16 with (fail)
          clear hlt hlt3 hx
          go_loopw [12, 13, 18] (fun v1 v2 t wr => ∃ (m N g1 c1 g2 c2 : Nat), m ≤ j - 1 ∧ t = .int .i64 ((m + 1 : Nat) : Int) ∧ v1 = .slice (some ⟨g1, 0, none⟩) N c1 ∧ v2 = .slice (some ⟨g2, 0, none⟩) N c2 ∧ N ≤ 97 + m ∧ Hid (CuR B w wr (l1 ++ offD2 C kerf i j m) N g1 c1 g2 c2)) (fun _ _ t _ => j - (intOf t).toNat)
          case atStart => exact ⟨0, N2, g3, c3, g4, c4, Nat.zero_le _, rfl, rfl, rfl, by omega, Lib.hid (by simpa [offD2] using HR0.out)⟩
          case round =>
            clear HR0
            obtain ⟨m2, N2, g3, c3, g4, c4, hmi, rfl, rfl, rfl, hN2, HR⟩ := hrel
            obtain ⟨x, hx⟩ : ∃ x : Nat, x = m2 + 1 := ⟨_, rfl⟩
            rw [← hx]
            by_cases hlt : x < j
            · have hlt3 : (x : Int) < (j : Int) := by omega
              have hnx := offD2_succ C kerf i j m2
              rw [← hx] at hnx
              have q1 := HC.out (i : Int) (x : Int) (by omega) (by omega) (by omega)
              have q2 := HC.out (i : Int) ((j : Int) - (x : Int) - (kerf : Int)) (by omega) (by omega) (by omega)
              obtain ⟨u1, hu1⟩ : ∃ u, u = pc C (i : Int) (x : Int) := ⟨_, rfl⟩
              obtain ⟨u2, hu2⟩ : ∃ u, u = pc C (i : Int) ((j : Int) - (x : Int) - (kerf : Int)) := ⟨_, rfl⟩
              rw [← hu1] at q1
              rw [← hu2] at q2
              rw [← hu1, ← hu2] at hnx
              have hp1 : ∀ W, Below w.heap.size w W → Calls Try.prog 54 #[.slice (some ⟨g, 0, none⟩) n ct, .int .i64 (i : Int), .int .i64 (x : Int)] W fun e w' => e = .returned (.int .i64 u1) ∧ W = w' := fun W hW => by
                rw [hu1]
                exact part_any g n ct H gs C (i : Int) (x : Int) W (HT.out.keep hW) (by omega) (by omega) (by omega) (by omega) (by omega) (by omega)
              have hp2 : ∀ W, Below w.heap.size w W → Calls Try.prog 54 #[.slice (some ⟨g, 0, none⟩) n ct, .int .i64 (i : Int), .int .i64 ((j : Int) - (x : Int) - (kerf : Int))] W fun e w' => e = .returned (.int .i64 u2) ∧ W = w' := fun W hW => by
                rw [hu2]
                exact part_any g n ct H gs C (i : Int) ((j : Int) - (x : Int) - (kerf : Int)) W (HT.out.keep hW) (by omega) (by omega) (by omega) (by omega) (by omega) (by omega)
              have e1 : IntKind.i64.wrap ((j : Int) - (x : Int)) = (j : Int) - (x : Int) := wrapI (by omega) (by omega)
              have e2 : IntKind.i64.wrap ((j : Int) - (x : Int) - (kerf : Int)) = (j : Int) - (x : Int) - (kerf : Int) := wrapI (by omega) (by omega)
              have e3 : IntKind.i64.wrap (u1 + u2) = u1 + u2 := wrapI (by omega) (by omega)
              have HNX := Lib.hid hnx
              have HP1 := Lib.hid hp1
              have HP2 := Lib.hid hp2
              have HX := Lib.hid hx
              clear hnx hp1 hp2 hu1 hu2 q1 q2 hx
              have hbn := below_new wr (.cells #[.int .i64 4, .int .i64 (x : Int)] 73)
              have HO1 := Lib.hid (own_keep HR.out.ow hbn)
              have HO2 := Lib.hid (own_keep HR.out.oi hbn)
              have HN1 := Lib.hid ((Blk.new wr 73 [.int .i64 4, .int .i64 (x : Int)]).vals0)
              have hB1 : B ≤ (wr.alloc (.cells #[.int .i64 4, .int .i64 (x : Int)] 73)).heap.size := Nat.le_trans HR.out.siz hbn.size
              have HON := Lib.hid (cc_one [⟨4, (x : Int)⟩])
              have HOI : Hid (∀ u ∈ [Value.int .i64 (u1 + u2)], u.oneCell' = true) := Lib.hid (fun u hu => by simp at hu; subst hu; rfl)
              have HNE := Lib.hid HR.out.ne
              have hmx : N2 + 1 ≤ maxLen := by unfold maxLen; omega
              have hbyA : (N2 + 1) * 16 ≤ 140737488355328 := by omega
              have hbyB : (N2 + 1) * 8 ≤ 140737488355328 := by omega
              clear hbn
              go_wp2_with (first | (at_builtin; refine wpList_append_lies _ rfl _ _ 36 rfl B 73 i0 zCut 2 16 Try.underlying36 hi0 hz0 hz1 hz2 rfl (by decide) (.slice (some ⟨g3, 0, none⟩) N2 c3) N2 _ rfl HO1.out ⟨wr.heap.size, 0, none⟩ 1 _ [.int .i64 4, .int .i64 (x : Int)] rfl rfl (vals_cells HN1.out) HON.out (by decide) hmx hbyA hB1 _ rfl ?_; intro g5 c5 w5 hown5 hgr5 hat5 hlt5; have HM5 := Lib.hid (HB.out ▸ CuR.mid HR.out hgr5); have HO2b := Lib.hid (own_keep (own_kept (v := .slice (some ⟨g3, 0, none⟩) N2 c3) HO2.out hgr5 (by simp only [Value.ownBlock, ne_eq, Option.some.injEq]; exact HNE.out.symm)) (below_new w5 (.cells #[.int .i64 (u1 + u2)] 3))); have HN2 := Lib.hid ((Blk.new w5 3 [Value.int .i64 (u1 + u2)]).vals0); have hB2 : B ≤ (w5.alloc (.cells #[.int .i64 (u1 + u2)] 3)).heap.size := Nat.le_trans hB1 (Nat.le_trans hgr5.size (by simp)); have HG5 := Lib.hid hgr5; have HA5 := Lib.hid hat5; have HL5 := Lib.hid hlt5; have HW5 := Lib.hid hown5; clear hown5 hgr5 hat5 hlt5) | (go_at_call 54; (with_reducible refine (HP1.out _ HM5.out).mono ?_); rintro e w2 ⟨rfl, rfl⟩) | (go_at_call 54; (with_reducible refine (HP2.out _ HM5.out).mono ?_); rintro e w3 ⟨rfl, rfl⟩) | (at_builtin; refine wpList_append_lies _ rfl _ _ 34 rfl B 3 j0 zInt 1 8 Try.underlying34 hj0 hy0 hy1 hy2 rfl (by decide) (.slice (some ⟨g4, 0, none⟩) N2 c4) N2 _ rfl HO2b.out ⟨w5.heap.size, 0, none⟩ 1 _ [Value.int .i64 (u1 + u2)] rfl rfl (vals_cells HN2.out) HOI.out (by decide) hmx hbyB hB2 _ rfl ?_; intro g6 c6 w6 hown6 hgr6 hat6 hlt6))
              have HRZ := Lib.hid (HR.out.two (x := ⟨4, (x : Int), u1 + u2⟩) HW5.out HG5.out HA5.out HL5.out hown6 hgr6 hat6)
              clear HO1 HO2 HN1 hB1 HON HOI HNE hmx hbyA hbyB HO2b HN2 hB2 HG5 HA5 HL5 HW5 hown6 hgr6 hat6 hlt6 HM5 HP1 HP2 e1 e2 e3
              go_roundw
              case rel =>
                have hx := HX.out
                refine ⟨x, _, _, _, _, _, by omega, by go_num, rfl, rfl, ?_, Lib.hid ?_⟩
                · omega
                · rw [HNX.out]; simpa [List.append_assoc] using HRZ.out
              case measure => simp [intOf]; omega
            · obtain rfl : m2 = j - 1 := by omega
              have hr := HR.out.post
              rw [HL1.out, HL0.out] at hr
              have HF := Lib.hid hr
              have hlt3 : ¬ (x : Int) < (j : Int) := by omega
              clear hr HR
              go_wp2
              go_ret2
              have h := HF.out
              rw [← HB.out]
              simpa [List.append_assoc] using h
end Go.Proofs.Ytkfjlgjncaddpaa
