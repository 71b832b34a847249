/- The saw chooses. -/
import Derived.Test.YtkfjlgjncaddpaaWOff
import Derived.Laws.ResultCell
import Derived.Deep.Cut
import Derived.Deep.CutRange
import Derived.Deep.RegionWith
namespace Go.Proofs.Ytkfjlgjncaddpaa
open Go.RowKit

theorem offS_succ (ss : List Sh) (i j n : Nat) : offS ss i j (n + 1) = offS ss i j n ++ shO (ss.getD n sh0) n i j := by simp [offS, List.range_succ]
theorem offA_succ (T : Nat → Nat → Cho) (kerf i j n : Nat) : offA T kerf i j (n + 1) = offA T kerf i j n ++ [⟨3, (n + 1 : Nat), pv T (n + 1 : Nat) j + pv T (i - (n + 1 : Nat) - kerf) j⟩] := by simp [offA, List.range_succ]
theorem offD_succ (T : Nat → Nat → Cho) (kerf i j n : Nat) : offD T kerf i j (n + 1) = offD T kerf i j n ++ [⟨4, (n + 1 : Nat), pv T i (n + 1 : Nat) + pv T i (j - (n + 1 : Nat) - kerf)⟩] := by simp [offD, List.range_succ]
theorem bel_alloc {B : Nat} {a w : World} {o : Obj} (h : Below B a w) (hB : B ≤ w.heap.size) : Below B a (w.alloc o) := h.alloc hB o
theorem set4 {T : TypeId} {w : World} {g : Nat} {z0 z1 z2 z3 : Value} (h : Blk T w g [z0, z1, z2, z3]) (a b c d : Value) : Blk T ((((w.setCell ⟨g, 0, none⟩ a).setCell ⟨g, 1, none⟩ b).setCell ⟨g, 2, none⟩ c).setCell ⟨g, 3, none⟩ d) g [a, b, c, d] := by
  have := (((h.set 0 a).set 1 b).set 2 c).set 3 d
  simpa using this
theorem far4 {T : TypeId} {w : World} {g g' : Nat} {vs : List Value} (h : Blk T w g vs) (hg : g ≠ g') (a b c d : Value) : Blk T ((((w.setCell ⟨g', 0, none⟩ a).setCell ⟨g', 1, none⟩ b).setCell ⟨g', 2, none⟩ c).setCell ⟨g', 3, none⟩ d) g vs :=
  (((h.setOther (a := ⟨g', 0, none⟩) hg a).setOther (a := ⟨g', 1, none⟩) hg b).setOther (a := ⟨g', 2, none⟩) hg c).setOther (a := ⟨g', 3, none⟩) hg d
theorem bel4 {B g : Nat} {w w' : World} (h : Below B w w') (hg : B ≤ g) (a b c d : Value) : Below B w ((((w'.setCell ⟨g, 0, none⟩ a).setCell ⟨g, 1, none⟩ b).setCell ⟨g, 2, none⟩ c).setCell ⟨g, 3, none⟩ d) :=
  below_set (below_set (below_set (below_set h hg _) hg _) hg _) hg _
theorem blk_new2 {T : TypeId} {w : World} {o : Obj} (cs : List Value) : Blk T ((w.alloc o).alloc (.cells cs.toArray T)) (w.heap.size + 1) cs := by
  have := Blk.new (w.alloc o) T cs
  simpa using this
theorem blk_news {T : TypeId} {w : World} {g : Nat} {a b c d : Value} (cs : List Value) : Blk T (((((w.setCell ⟨g, 0, none⟩ a).setCell ⟨g, 1, none⟩ b).setCell ⟨g, 2, none⟩ c).setCell ⟨g, 3, none⟩ d).alloc (.cells cs.toArray T)) w.heap.size cs := by
  have := Blk.new ((((w.setCell ⟨g, 0, none⟩ a).setCell ⟨g, 1, none⟩ b).setCell ⟨g, 2, none⟩ c).setCell ⟨g, 3, none⟩ d) T cs
  simpa using this
def z4 : List Value := [.int .i64 0, .int .i64 0, .int .i64 0, .int .i64 0]
abbrev o4 : Obj := .cells #[.int .i64 0, .int .i64 0, .int .i64 0, .int .i64 0] 89
theorem z4c {w : World} {g : Nat} (h : Blk 89 w g z4) : w.cell? ⟨g, 0, none⟩ = some (.int .i64 0) ∧ w.cell? ⟨g, 1, none⟩ = some (.int .i64 0) ∧ w.cell? ⟨g, 2, none⟩ = some (.int .i64 0) ∧ w.cell? ⟨g, 3, none⟩ = some (.int .i64 0) ∧ ∀ i, w.frozen? ⟨g, i, none⟩ = false :=
  ⟨h.cell 0, h.cell 1, h.cell 2, h.cell 3, h.frozen⟩
/-- The frame of choose: the rectangle, the result, the choice. -/
structure ChM (w wr : World) (q q1 q2 : Nat) (i j : Nat) (c : Cho) : Prop where
  rc : Blk 89 wr q [.int .i64 0, .int .i64 0, .int .i64 (i : Int), .int .i64 (j : Int)]
  rv : Blk 79 wr q1 (choC cho0)
  ch : Blk 79 wr q2 (choC c)
  bel : Below q w wr
  lt : q < q1 ∧ q1 < q2
theorem ChM.keep {w wr wr' : World} {q q1 q2 i j : Nat} {c : Cho} (h : ChM w wr q q1 q2 i j c) (hb : Below wr.heap.size wr wr') : ChM w wr' q q1 q2 i j c :=
  ⟨h.rc.keep hb, h.rv.keep hb, h.ch.keep hb, below_on h.bel (Nat.le_of_lt h.rc.lt) hb, h.lt⟩
theorem ChM.off {w wr wr' : World} {q q1 q2 i j : Nat} {c c' : Cho} (h : ChM w wr q q1 q2 i j c) (h1 : Blk 79 wr' q2 (choC c')) (h2 : ∀ B, B ≤ q2 → Below B wr wr') (h3 : ∀ g, g ≠ q2 → wr'.heap[g]? = wr.heap[g]?) : ChM w wr' q q1 q2 i j c' :=
  ⟨h.rc.of_block (h3 _ (by have := h.lt; omega)), h.rv.of_block (h3 _ (by have := h.lt; omega)), h1, h.bel.trans (h2 q (by have := h.lt; omega)), h.lt⟩
theorem ChM.drewN {w wr : World} {q q1 q2 i j : Nat} {c : Cho} (h : ChM w wr q q1 q2 i j c) (z : Nat) : ChM w (wr.drewN z) q q1 q2 i j c := ⟨h.rc, h.rv, h.ch, below_drewN h.bel z, h.lt⟩
theorem ChM.rcs {w wr : World} {q q1 q2 i j : Nat} {c : Cho} (h : ChM w wr q q1 q2 i j c) : wr.cell? ⟨q, 0, none⟩ = some (.int .i64 0) ∧ wr.cell? ⟨q, 1, none⟩ = some (.int .i64 0) ∧ wr.cell? ⟨q, 2, none⟩ = some (.int .i64 (i : Int)) ∧ wr.cell? ⟨q, 3, none⟩ = some (.int .i64 (j : Int)) :=
  ⟨h.rc.cell 0, h.rc.cell 1, h.rc.cell 2, h.rc.cell 3⟩
theorem sh4 {w : World} {g : Nat} {a b d : Int} {t : Bool} (h : Blk 65 w g (shC ⟨a, b, d, t⟩)) : w.cell? ⟨g, 0, none⟩ = some (.int .i64 a) ∧ w.cell? ⟨g, 1, none⟩ = some (.int .i64 b) ∧ w.cell? ⟨g, 2, none⟩ = some (.int .i64 d) ∧ w.cell? ⟨g, 3, none⟩ = some (.bool t) :=
  ⟨h.cell 0, h.cell 1, h.cell 2, h.cell 3⟩
theorem ChM.new (w : World) (i j : Nat) : ∃ W, W = (((w.alloc (.cells #[.int .i64 0, .int .i64 0, .int .i64 (i : Int), .int .i64 (j : Int)] 89)).alloc (.cells #[.int .i64 0, .int .i64 0, .int .i64 0] 79)).alloc (.cells #[.int .i64 0, .int .i64 0, .int .i64 0] 79)) ∧ ChM w W w.heap.size (w.heap.size + 1) (w.heap.size + 1 + 1) i j cho0 := by
  refine ⟨_, rfl, ⟨?_, ?_, ?_, ?_, ?_⟩⟩
  · exact ((Blk.new w 89 [.int .i64 0, .int .i64 0, .int .i64 (i : Int), .int .i64 (j : Int)]).alloc (.cells #[.int .i64 0, .int .i64 0, .int .i64 0] 79)).alloc (.cells #[.int .i64 0, .int .i64 0, .int .i64 0] 79)
  · have := (Blk.new (w.alloc (.cells #[.int .i64 0, .int .i64 0, .int .i64 (i : Int), .int .i64 (j : Int)] 89)) 79 (choC cho0)).alloc (.cells #[.int .i64 0, .int .i64 0, .int .i64 0] 79)
    simp at this
    exact this
  · have := (Blk.new ((w.alloc (.cells #[.int .i64 0, .int .i64 0, .int .i64 (i : Int), .int .i64 (j : Int)] 89)).alloc (.cells #[.int .i64 0, .int .i64 0, .int .i64 0] 79)) 79 (choC cho0))
    simp at this
    exact this
  · exact (((Below.refl _ _).alloc (Nat.le_refl _) _).alloc (by simp) _).alloc (by simp; omega) _
  · omega
theorem und79 : (Try.prog.underlying 79).map (fun d => match d with | .struct _ | .array _ _ => true | _ => false) = some true := by kernel_rfl
theorem size79 : (Try.prog.info? 79).map (·.size) = some 3 := by kernel_rfl
theorem shO_fold (s : Sh) (n i j : Nat) (c : Cho) : (shO s n i j).foldl offer c = (fun c1 : Cho => if isT s i j = true then offer c1 ⟨2, n, s.v⟩ else c1) (if isS s i j = true then offer c ⟨1, n, s.v⟩ else c) := by
  unfold shO
  rw [List.foldl_append]
  split <;> split <;> rfl

set_option maxHeartbeats 4000000 in
set_option maxRecDepth 100000 in
theorem choose_any (p kerf : Nat) (A : Option Addr) (L cp : Nat) (ss : List Sh) (T : Nat → Nat → Cho) (i j : Nat) (w : World) (hm : SawM w p kerf A L cp T) (hA : ShAt w A ss) (hL : L = ss.length) (hL16 : L ≤ 16) (hi1 : 1 ≤ i) (hi : i ≤ 64) (hj1 : 1 ≤ j) (hj : j ≤ 64) (hk : kerf ≤ 8)
    (hT : ∀ a b : Int, a ≤ i → b ≤ j → 0 ≤ pv T a b ∧ pv T a b ≤ 4225000000) :
    Calls Try.prog 53 #[.pointer (some ⟨p, 0, none⟩), rcV 0 0 i j] w fun e w' => ∃ c, c = choF T kerf ss i j ∧ e = .returned (.agg #[.int .i64 c.k, .int .i64 c.a, .int .i64 c.v]) ∧ Below w.heap.size w w' := by
  obtain ⟨W, hW, hc0⟩ := ChM.new w i j
  obtain ⟨q, hq⟩ : ∃ q, q = w.heap.size := ⟨_, rfl⟩
  obtain ⟨q1, hq1⟩ : ∃ q1, q1 = w.heap.size + 1 := ⟨_, rfl⟩
  obtain ⟨q2, hq2⟩ : ∃ q2, q2 = w.heap.size + 1 + 1 := ⟨_, rfl⟩
  rw [← hq2, ← hq1, ← hq] at hc0
  have hsaw : ∀ wr, Below q w wr → SawM wr p kerf A L cp T ∧ ShAt wr A ss := fun wr hb => ⟨hm.keep (hq ▸ hb), hA.keep (hq ▸ hb)⟩
  have HSAW := Lib.hid hsaw
  have HL := Lib.hid hL
  have HT := Lib.hid hT
  have HC0 := Lib.hid hc0
  have HW := Lib.hid hW
  have HQ := Lib.hid hq
  have HQ1 := Lib.hid hq1
  have HQ2 := Lib.hid hq2
  have HKF := Lib.hid hk
  clear hsaw hL hT hc0 hA hm hW hk hq hq1 hq2
  unfold rcV
  go_enter Try.func53, Try.ntmps53
  go_upto_region 2 with (fail)
  rw [← HW.out, ← HQ2.out, ← HQ1.out, ← HQ.out]
  clear HW HQ2 HQ1
  have hk0 : W.cell? ⟨p, 1, none⟩ = some (.slice A L cp) := (HSAW.out W HC0.out.bel).1.sl
  go_wp2_with (fail)
  clear hk0
  go_loopw [21, 6, 7] (fun t _ _ wr => ∃ n : Nat, n ≤ L ∧ t = .int .i64 (n : Int) ∧ Hid (ChM w wr q q1 q2 i j ((offS ss i j n).foldl offer cho0))) (fun t _ _ _ => L - (intOf t).toNat)
  case atStart => exact ⟨0, Nat.zero_le _, rfl, HC0⟩
  case round =>
    obtain ⟨n, hn, rfl, HM⟩ := hrel
    clear HC0
    by_cases hlt : n < L
    · have hlt3 : (n : Int) < (L : Int) := by omega
      obtain ⟨g, off, rfl, hg, c0, c1, c2, c3⟩ := ShAt.at_ (HSAW.out wr HM.out.bel).2 (i := n) (by have := HL.out; omega)
      have hfold := shO_fold (ss.getD n sh0) n i j ((offS ss i j n).foldl offer cho0)
      rw [← List.foldl_append, ← offS_succ] at hfold
      have HFO := Lib.hid hfold
      clear hfold
      obtain ⟨cn, hcn⟩ : ∃ cn, cn = (offS ss i j (n + 1)).foldl offer cho0 := ⟨_, rfl⟩
      rw [← hcn] at HFO
      have HCN := Lib.hid hcn
      clear hcn
      generalize (offS ss i j n).foldl offer cho0 = c at *
      generalize ss.getD n sh0 = s at *
      obtain ⟨sw, sh, sv, st⟩ := s
      simp only at c0 c1 c2 c3
      have hb2 : Blk 65 (wr.alloc (.cells #[.int .i64 sw, .int .i64 sh, .int .i64 sv, .bool st] 65)) wr.heap.size (shC ⟨sw, sh, sv, st⟩) := Blk.new wr 65 (shC ⟨sw, sh, sv, st⟩)
      have hm2 := HM.out.keep (below_new wr (.cells #[.int .i64 sw, .int .i64 sh, .int .i64 sv, .bool st] 65))
      go_upto_region 5 with (fail)
      obtain ⟨g7, hg7⟩ : ∃ g7, g7 = wr.heap.size := ⟨_, rfl⟩
      rw [← hg7] at hb2 ⊢
      have hg7q : q2 < g7 := by rw [hg7]; exact HM.out.ch.lt
      clear hg7 c0 c1 c2 c3 hg HM
      generalize wr.alloc (.cells #[.int .i64 sw, .int .i64 sh, .int .i64 sv, .bool st] 65) = W1 at *
      have HM1 := Lib.hid hm2
      have HS1 := Lib.hid hb2
      obtain ⟨r0, r1, r2, r3⟩ := HM1.out.rcs
      obtain ⟨s0, s1, s2, s3⟩ := sh4 HS1.out
      have hsh := fun W => isShape_any 0 0 (i : Int) (j : Int) ⟨sw, sh, sv, st⟩ W
      have htu := fun W => isTurned_any 0 0 (i : Int) (j : Int) ⟨sw, sh, sv, st⟩ W
      unfold rcV shV at hsh htu
      have HSH := Lib.hid hsh
      have HTU := Lib.hid htu
      clear hm2 hb2 hsh htu
      generalize isS ⟨sw, sh, sv, st⟩ (i : Int) (j : Int) = b1 at *
      generalize isT ⟨sw, sh, sv, st⟩ (i : Int) (j : Int) = b2 at *
      cases b1 with
      | false =>
        go_upto_region 7 with (go_at_call 59; refine (HSH.out _).mono ?_; rintro e w1 ⟨rfl, hb1⟩)
        have HM2 := Lib.hid (HM1.out.keep hb1)
        have HS2 := Lib.hid (HS1.out.keep hb1)
        clear hb1 r0 r1 r2 r3 s0 s1 s2 s3 HM1 HS1 HSH
        obtain ⟨r0, r1, r2, r3⟩ := HM2.out.rcs
        obtain ⟨s0, s1, s2, s3⟩ := sh4 HS2.out
        cases b2 with
        | false =>
          go_wp2_with (go_at_call 62; refine (HTU.out _).mono ?_; rintro e w2 ⟨rfl, hb2⟩)
          have HM3 := Lib.hid (HM2.out.keep hb2)
          have he : cn = c := by rw [HFO.out]; rfl
          have HE := Lib.hid he
          clear hb2 he
          go_roundw
          case rel => exact ⟨n + 1, by omega, by go_num, Lib.hid (by rw [← HCN.out, HE.out]; exact HM3.out)⟩
          case measure => simp [intOf]; omega
        | true =>
          go_upto_region 8 with (go_at_call 62; refine (HTU.out _).mono ?_; rintro e w2 ⟨rfl, hb2⟩)
          have HM3 := Lib.hid (HM2.out.keep hb2)
          have HS3 := Lib.hid (HS2.out.keep hb2)
          clear r0 r1 r2 r3 s0 s1 s2 s3
          obtain ⟨s0, s1, s2, s3⟩ := sh4 HS3.out
          go_wp2_with (go_at_call 63; refine (offer_any q2 _ 2 (n : Int) sv _ HM3.out.ch).mono ?_; rintro e w3 ⟨rfl, ho1, _ho2, ho3, ho4⟩)
          have HM4 := Lib.hid (HM3.out.off ho1 ho3 ho4)
          have he : cn = offer (c) ⟨2, n, sv⟩ := by rw [HFO.out]; rfl
          have HE := Lib.hid he
          clear hb2 he ho1 _ho2 ho3 ho4 s0 s1 s2 s3
          go_roundw
          case rel => exact ⟨n + 1, by omega, by go_num, Lib.hid (by rw [← HCN.out, HE.out]; exact HM4.out)⟩
          case measure => simp [intOf]; omega
      | true =>
        go_upto_region 6 with (go_at_call 59; refine (HSH.out _).mono ?_; rintro e w1 ⟨rfl, hb1⟩)
        have HM1' := Lib.hid (HM1.out.keep hb1)
        have HS1' := Lib.hid (HS1.out.keep hb1)
        clear hb1 r0 r1 r2 r3 s0 s1 s2 s3 HM1 HS1 HSH
        obtain ⟨s0, s1, s2, s3⟩ := sh4 HS1'.out
        go_upto_region 7 with (go_at_call 63; refine (offer_any q2 _ 1 (n : Int) sv _ HM1'.out.ch).mono ?_; rintro e w1' ⟨rfl, ho1, _ho2, ho3, ho4⟩)
        have HM2 := Lib.hid (HM1'.out.off ho1 ho3 ho4)
        have HS2 := Lib.hid (HS1'.out.of_block (ho4 g7 (by omega)))
        clear s0 s1 s2 s3 ho1 _ho2 ho3 ho4 HM1' HS1'
        obtain ⟨r0, r1, r2, r3⟩ := HM2.out.rcs
        obtain ⟨s0, s1, s2, s3⟩ := sh4 HS2.out
        cases b2 with
        | false =>
          go_wp2_with (go_at_call 62; refine (HTU.out _).mono ?_; rintro e w2 ⟨rfl, hb2⟩)
          have HM3 := Lib.hid (HM2.out.keep hb2)
          have he : cn = offer c ⟨1, n, sv⟩ := by rw [HFO.out]; rfl
          have HE := Lib.hid he
          clear hb2 he
          go_roundw
          case rel => exact ⟨n + 1, by omega, by go_num, Lib.hid (by rw [← HCN.out, HE.out]; exact HM3.out)⟩
          case measure => simp [intOf]; omega
        | true =>
          go_upto_region 8 with (go_at_call 62; refine (HTU.out _).mono ?_; rintro e w2 ⟨rfl, hb2⟩)
          have HM3 := Lib.hid (HM2.out.keep hb2)
          have HS3 := Lib.hid (HS2.out.keep hb2)
          clear r0 r1 r2 r3 s0 s1 s2 s3
          obtain ⟨s0, s1, s2, s3⟩ := sh4 HS3.out
          go_wp2_with (go_at_call 63; refine (offer_any q2 _ 2 (n : Int) sv _ HM3.out.ch).mono ?_; rintro e w3 ⟨rfl, ho1, _ho2, ho3, ho4⟩)
          have HM4 := Lib.hid (HM3.out.off ho1 ho3 ho4)
          have he : cn = offer (offer c ⟨1, n, sv⟩) ⟨2, n, sv⟩ := by rw [HFO.out]; rfl
          have HE := Lib.hid he
          clear hb2 he ho1 _ho2 ho3 ho4 s0 s1 s2 s3
          go_roundw
          case rel => exact ⟨n + 1, by omega, by go_num, Lib.hid (by rw [← HCN.out, HE.out]; exact HM4.out)⟩
          case measure => simp [intOf]; omega
    · obtain rfl : n = L := by omega
      have hm := HM.out
      rw [HL.out] at hm
      generalize hcs : (offS ss i j ss.length).foldl offer cho0 = cS at *
      have HCS := Lib.hid hcs
      have HMS := Lib.hid hm
      clear hcs hm HM
      go_upto_region 11 with (fail)
      go_loopw [8, 9, 10] (fun t _ _ wr => ∃ m : Nat, m ≤ i - 1 ∧ t = .int .i64 ((m + 1 : Nat) : Int) ∧ Hid (ChM w wr q q1 q2 i j ((offA T kerf i j m).foldl offer cS))) (fun t _ _ _ => i - (intOf t).toNat)
      case atStart => exact ⟨0, Nat.zero_le _, rfl, HMS⟩
      case round =>
        clear HMS
        obtain ⟨m, hmi, rfl, HM⟩ := hrel
        have hfold := congrArg (fun l => List.foldl offer cS l) (offA_succ T kerf i j m)
        simp only [List.foldl_append, List.foldl_cons, List.foldl_nil] at hfold
        obtain ⟨x, hx⟩ : ∃ x : Nat, x = m + 1 := ⟨_, rfl⟩
        rw [← hx] at hfold ⊢
        obtain ⟨cn, hcn⟩ : ∃ cn, cn = (offA T kerf i j x).foldl offer cS := ⟨_, rfl⟩
        rw [← hcn] at hfold
        have HFO := Lib.hid hfold
        have HCN := Lib.hid hcn
        have HX := Lib.hid hx
        obtain ⟨r0, r1, r2, r3⟩ := HM.out.rcs
        by_cases hlt : x < i
        · have hlt3 : (x : Int) < (i : Int) := by omega
          clear hfold hcn hx
          have k0 : wr.cell? ⟨p, 0, none⟩ = some (.int .i64 (kerf : Int)) := (HSAW.out wr HM.out.bel).1.kf
          obtain ⟨c, hcc⟩ : ∃ c, c = (offA T kerf i j m).foldl offer cS := ⟨_, rfl⟩
          rw [← hcc] at HM HFO
          have HCC := Lib.hid hcc
          clear hcc
          have hac := fun W => across_any 0 0 (i : Int) (j : Int) (x : Int) (kerf : Int) W (by omega) (by omega) (by omega) (by have := HKF.out; omega)
          unfold rcV at hac
          have hkp : ∀ W, Below wr.heap.size wr W → W.cell? ⟨q, 0, none⟩ = some (.int .i64 0) ∧ W.cell? ⟨q, 1, none⟩ = some (.int .i64 0) ∧ W.cell? ⟨q, 2, none⟩ = some (.int .i64 (i : Int)) ∧ W.cell? ⟨q, 3, none⟩ = some (.int .i64 (j : Int)) ∧ W.cell? ⟨p, 0, none⟩ = some (.int .i64 (kerf : Int)) := fun W hW => by
            have h1 := HM.out.keep hW
            obtain ⟨a0, a1, a2, a3⟩ := h1.rcs
            exact ⟨a0, a1, a2, a3, (HSAW.out W h1.bel).1.kf⟩
          have hac2 : ∀ W, Below wr.heap.size wr W → Calls Try.prog 56 #[.agg #[.int .i64 0, .int .i64 0, .int .i64 (i : Int), .int .i64 (j : Int)], .int .i64 (x : Int), .int .i64 (kerf : Int)] W fun e w' =>
              e = .returned (.tuple #[.agg #[.int .i64 0, .int .i64 0, .int .i64 (x : Int), .int .i64 (j : Int)], .agg #[.int .i64 (0 + ((x : Int) + (kerf : Int))), .int .i64 0, .int .i64 ((i : Int) - ((x : Int) + (kerf : Int))), .int .i64 (j : Int)]]) ∧ Below W.heap.size W w' ∧ Below wr.heap.size wr w' ∧ w'.cell? ⟨q, 0, none⟩ = some (.int .i64 0) ∧ w'.cell? ⟨q, 1, none⟩ = some (.int .i64 0) ∧ w'.cell? ⟨q, 2, none⟩ = some (.int .i64 (i : Int)) ∧ w'.cell? ⟨q, 3, none⟩ = some (.int .i64 (j : Int)) ∧ w'.cell? ⟨p, 0, none⟩ = some (.int .i64 (kerf : Int)) :=
            fun W hW => (hac W).mono fun e w' h => ⟨h.1, h.2, below_on hW hW.size h.2, hkp w' (below_on hW hW.size h.2)⟩
          have HAC := Lib.hid hac2
          have B0 : Below wr.heap.size wr wr.drew := (Below.refl wr.heap.size wr).drew
          have B1 : Below wr.heap.size wr (wr.alloc o4).drew := ((Below.refl wr.heap.size wr).alloc (Nat.le_refl _) _).drew
          have B2 : Below wr.heap.size wr ((wr.alloc o4).alloc o4).drew := (((Below.refl wr.heap.size wr).alloc (Nat.le_refl _) _).alloc (by simp) _).drew
          have N1 : Blk 89 (wr.alloc o4).drew wr.heap.size z4 := (Blk.new wr 89 z4).drew
          have N2 : Blk 89 ((wr.alloc o4).alloc o4).drew wr.heap.size z4 := ((Blk.new wr 89 z4).alloc o4).drew
          have N3 : Blk 89 ((wr.alloc o4).alloc o4).drew (wr.heap.size + 1) z4 := (blk_new2 z4).drew
          have HB1 := Lib.hid B1
          have HB2 := Lib.hid B2
          have HB0 := Lib.hid B0
          have HN1 := Lib.hid N1
          have HN2 := Lib.hid N2
          have HN3 := Lib.hid N3
          have HKP := Lib.hid hkp
          have lq : q < wr.heap.size := HM.out.rc.lt
          have lp : p < wr.heap.size := (HSAW.out wr HM.out.bel).1.lt
          have nq : ¬ q = wr.heap.size := Nat.ne_of_lt lq
          have np : ¬ p = wr.heap.size := Nat.ne_of_lt lp
          clear hkp hac hac2 B0 B1 B2 N1 N2 N3
          go_upto_region 13 with (fail)
          go_cut [9, 10] from 41 to 65 (fun a b ww => ∃ b9 b10, a = .pointer (some ⟨b9, 0, none⟩) ∧ b = .pointer (some ⟨b10, 0, none⟩) ∧ Blk 89 ww b9 [.int .i64 0, .int .i64 0, .int .i64 (x : Int), .int .i64 (j : Int)] ∧ Blk 89 ww b10 [.int .i64 ((x : Int) + (kerf : Int)), .int .i64 0, .int .i64 ((i : Int) - ((x : Int) + (kerf : Int))), .int .i64 (j : Int)] ∧ Below wr.heap.size wr ww ∧ wr.heap.size ≤ b9 ∧ wr.heap.size ≤ b10)
          case first =>
            go_region_held3 (fun w' => w'.cell? ⟨q, 0, none⟩ = some (.int .i64 0) ∧ w'.cell? ⟨q, 1, none⟩ = some (.int .i64 0) ∧ w'.cell? ⟨q, 2, none⟩ = some (.int .i64 (i : Int)) ∧ w'.cell? ⟨q, 3, none⟩ = some (.int .i64 (j : Int)) ∧ w'.cell? ⟨p, 0, none⟩ = some (.int .i64 (kerf : Int)))
              (first | with_reducible exact ⟨r0, r1, r2, r3, k0⟩ | with_reducible exact ⟨x0, x1, x2, x3, x4⟩ | with_reducible exact HKP.out _ HB0.out | with_reducible exact HKP.out _ HB1.out | with_reducible exact HKP.out _ HB2.out | ((with_reducible refine HKP.out _ ?_); repeat (first | with_reducible exact hb5 | with_reducible exact HB0.out | with_reducible exact HB1.out | with_reducible exact HB2.out | ((with_reducible refine below_set ?_ ?_ _); rotate_left; focus (first | omega | (simp; omega))) | ((with_reducible refine bel_alloc ?_ ?_); rotate_left; focus (first | omega | (simp; omega))))))
              ((first
                | (go_at_call 56; (with_reducible refine (HAC.out _ HB0.out).mono ?_); rintro e w5 ⟨rfl, _hbW, hb5, x0, x1, x2, x3, x4⟩; have sz5 := hb5.size)
                | (go_at_call 56; (with_reducible refine (HAC.out _ HB1.out).mono ?_); rintro e w5 ⟨rfl, hbW, hb5, x0, x1, x2, x3, x4⟩; have sz5 := hb5.size; have M1 := HN1.out.keep hbW; obtain ⟨m0, m1, m2, m3, m4⟩ := z4c M1; have n1 : ¬ wr.heap.size = w5.heap.size := Nat.ne_of_lt M1.lt; have n2 : ¬ w5.heap.size = wr.heap.size := Nat.ne_of_gt M1.lt; have l1 : wr.heap.size < w5.heap.size := M1.lt)
                | (go_at_call 56; (with_reducible refine (HAC.out _ HB2.out).mono ?_); rintro e w5 ⟨rfl, hbW, hb5, x0, x1, x2, x3, x4⟩; have sz5 := hb5.size; have M2 := HN2.out.keep hbW; have M3 := HN3.out.keep hbW; obtain ⟨m0, m1, m2, m3, m4⟩ := z4c M2; obtain ⟨l0, l1, l2, l3, l4⟩ := z4c M3; have g1 : wr.heap.size < w5.heap.size := M2.lt; have g2 : wr.heap.size + 1 < w5.heap.size := M3.lt)))
            all_goals
              go_wp2_with (fail)
              go_meet
              case rel =>
                refine ⟨_, _, rfl, rfl, ?_, ?_, ?_, by omega, by omega⟩
                · first
                    | with_reducible exact (Blk.new _ 89 [_, _, _, _]).alloc _
                    | with_reducible exact blk_new2 [_, _, _, _]
                    | with_reducible exact (set4 M1 _ _ _ _).alloc _
                    | with_reducible exact blk_news [_, _, _, _]
                    | with_reducible exact far4 (set4 M2 _ _ _ _) (by omega) _ _ _ _
                    | with_reducible exact far4 (set4 M3 _ _ _ _) (by omega) _ _ _ _
                · first
                    | with_reducible exact (Blk.new _ 89 [_, _, _, _]).alloc _
                    | with_reducible exact blk_new2 [_, _, _, _]
                    | with_reducible exact (set4 M1 _ _ _ _).alloc _
                    | with_reducible exact blk_news [_, _, _, _]
                    | with_reducible exact set4 (far4 M2 (by omega) _ _ _ _) _ _ _ _
                    | with_reducible exact set4 (far4 M3 (by omega) _ _ _ _) _ _ _ _
                · repeat (first | with_reducible exact hb5 | ((with_reducible refine below_set ?_ ?_ _); rotate_left; focus (first | omega | (simp; omega))) | ((with_reducible refine bel_alloc ?_ ?_); rotate_left; focus (first | omega | (simp; omega))))
          case rest =>
            obtain ⟨b9, b10, rfl, rfl, hl9, hl10, hbl, hg9, hg10⟩ := hcut
            clear HB0 HB1 HB2 HN1 HN2 HN3 HKP HAC nq np lq lp r0 r1 r2 r3 k0
            have HM1 := Lib.hid (HM.out.keep hbl)
            have hn9 : b9 ≠ q2 := by have := HM.out.ch.lt; omega
            have hn10 : b10 ≠ q2 := by have := HM.out.ch.lt; omega
            clear hbl hg9 hg10 HM
            have hkp : ∀ W, Below wc.heap.size wc W → W.cell? ⟨b9, 0, none⟩ = some (.int .i64 0) ∧ W.cell? ⟨b9, 1, none⟩ = some (.int .i64 0) ∧ W.cell? ⟨b9, 2, none⟩ = some (.int .i64 (x : Int)) ∧ W.cell? ⟨b9, 3, none⟩ = some (.int .i64 (j : Int)) ∧ W.cell? ⟨b10, 0, none⟩ = some (.int .i64 ((x : Int) + (kerf : Int))) ∧ W.cell? ⟨b10, 1, none⟩ = some (.int .i64 0) ∧ W.cell? ⟨b10, 2, none⟩ = some (.int .i64 ((i : Int) - ((x : Int) + (kerf : Int)))) ∧ W.cell? ⟨b10, 3, none⟩ = some (.int .i64 (j : Int)) := fun W hW => by
              have h1 := hl9.keep hW
              have h2 := hl10.keep hW
              exact ⟨h1.cell 0, h1.cell 1, h1.cell 2, h1.cell 3, h2.cell 0, h2.cell 1, h2.cell 2, h2.cell 3⟩
            obtain ⟨vl, hvl⟩ : ∃ vl, vl = pv T (x : Int) (j : Int) := ⟨_, rfl⟩
            obtain ⟨vr, hvr⟩ : ∃ vr, vr = pv T ((i : Int) - ((x : Int) + (kerf : Int))) (j : Int) := ⟨_, rfl⟩
            have hbl1 := HT.out (x : Int) (j : Int) (by omega) (by omega)
            have hbl2 := HT.out ((i : Int) - ((x : Int) + (kerf : Int))) (j : Int) (by omega) (by omega)
            rw [← hvl] at hbl1
            rw [← hvr] at hbl2
            have hval : ∀ W, Below wc.heap.size wc W → Calls Try.prog 64 #[.pointer (some ⟨p, 0, none⟩), .agg #[.int .i64 0, .int .i64 0, .int .i64 (x : Int), .int .i64 (j : Int)]] W fun e w' => e = .returned (.int .i64 vl) ∧ Below wc.heap.size wc w' ∧ w'.cell? ⟨b9, 0, none⟩ = some (.int .i64 0) ∧ w'.cell? ⟨b9, 1, none⟩ = some (.int .i64 0) ∧ w'.cell? ⟨b9, 2, none⟩ = some (.int .i64 (x : Int)) ∧ w'.cell? ⟨b9, 3, none⟩ = some (.int .i64 (j : Int)) ∧ w'.cell? ⟨b10, 0, none⟩ = some (.int .i64 ((x : Int) + (kerf : Int))) ∧ w'.cell? ⟨b10, 1, none⟩ = some (.int .i64 0) ∧ w'.cell? ⟨b10, 2, none⟩ = some (.int .i64 ((i : Int) - ((x : Int) + (kerf : Int)))) ∧ w'.cell? ⟨b10, 3, none⟩ = some (.int .i64 (j : Int)) := fun W hW => by
              rw [hvl]
              exact (value_any p kerf A _ cp T _ _ _ _ W (HSAW.out W (HM1.out.keep hW).bel).1 (by omega) (by omega)).mono fun e w' h => ⟨h.1, below_on hW hW.size h.2, hkp w' (below_on hW hW.size h.2)⟩
            have hvar : ∀ W, Below wc.heap.size wc W → Calls Try.prog 64 #[.pointer (some ⟨p, 0, none⟩), .agg #[.int .i64 ((x : Int) + (kerf : Int)), .int .i64 0, .int .i64 ((i : Int) - ((x : Int) + (kerf : Int))), .int .i64 (j : Int)]] W fun e w' => e = .returned (.int .i64 vr) ∧ Below wc.heap.size wc w' ∧ w'.cell? ⟨b9, 0, none⟩ = some (.int .i64 0) ∧ w'.cell? ⟨b9, 1, none⟩ = some (.int .i64 0) ∧ w'.cell? ⟨b9, 2, none⟩ = some (.int .i64 (x : Int)) ∧ w'.cell? ⟨b9, 3, none⟩ = some (.int .i64 (j : Int)) ∧ w'.cell? ⟨b10, 0, none⟩ = some (.int .i64 ((x : Int) + (kerf : Int))) ∧ w'.cell? ⟨b10, 1, none⟩ = some (.int .i64 0) ∧ w'.cell? ⟨b10, 2, none⟩ = some (.int .i64 ((i : Int) - ((x : Int) + (kerf : Int)))) ∧ w'.cell? ⟨b10, 3, none⟩ = some (.int .i64 (j : Int)) := fun W hW => by
              rw [hvr]
              exact (value_any p kerf A _ cp T _ _ _ _ W (HSAW.out W (HM1.out.keep hW).bel).1 (by omega) (by omega)).mono fun e w' h => ⟨h.1, below_on hW hW.size h.2, hkp w' (below_on hW hW.size h.2)⟩
            have hoff : ∀ W, Below wc.heap.size wc W → Calls Try.prog 63 #[.pointer (some ⟨q2, 0, none⟩), .int .i64 3, .int .i64 (x : Int), .int .i64 (vl + vr)] W fun e w' => e = .returned (.tuple #[]) ∧ Hid (ChM w w' q q1 q2 i j (offer c ⟨3, x, vl + vr⟩)) ∧ w'.cell? ⟨b9, 0, none⟩ = some (.int .i64 0) ∧ w'.cell? ⟨b9, 1, none⟩ = some (.int .i64 0) ∧ w'.cell? ⟨b9, 2, none⟩ = some (.int .i64 (x : Int)) ∧ w'.cell? ⟨b9, 3, none⟩ = some (.int .i64 (j : Int)) ∧ w'.cell? ⟨b10, 0, none⟩ = some (.int .i64 ((x : Int) + (kerf : Int))) ∧ w'.cell? ⟨b10, 1, none⟩ = some (.int .i64 0) ∧ w'.cell? ⟨b10, 2, none⟩ = some (.int .i64 ((i : Int) - ((x : Int) + (kerf : Int)))) ∧ w'.cell? ⟨b10, 3, none⟩ = some (.int .i64 (j : Int)) := fun W hW => by
              have hm := HM1.out.keep hW
              refine (offer_any q2 c 3 x (vl + vr) W hm.ch).mono fun e w' h => ⟨h.1, Lib.hid (hm.off h.2.1 h.2.2.2.1 h.2.2.2.2), ?_⟩
              have h1 := (hl9.keep hW).of_block (h.2.2.2.2 b9 hn9)
              have h2 := (hl10.keep hW).of_block (h.2.2.2.2 b10 hn10)
              exact ⟨h1.cell 0, h1.cell 1, h1.cell 2, h1.cell 3, h2.cell 0, h2.cell 1, h2.cell 2, h2.cell 3⟩
            have hsum : IntKind.i64.wrap (vl + vr) = vl + vr := wrapI (by omega) (by omega)
            have HC0 : Below wc.heap.size wc wc.drew := (Below.refl wc.heap.size wc).drew
            obtain ⟨y0, y1, y2, y3, y4, y5, y6, y7⟩ := hkp wc.drew HC0
            have HVL := Lib.hid hval
            have HVR := Lib.hid hvar
            have HOF := Lib.hid hoff
            have HWL := Lib.hid hvl
            have HWR := Lib.hid hvr
            clear hkp hval hvar hoff hl9 hl10 hvl hvr hbl1 hbl2 HM1
            go_upto_region 14 with (fail)
            go_region_held3 (fun w' => w'.cell? ⟨b9, 0, none⟩ = some (.int .i64 0) ∧ w'.cell? ⟨b9, 1, none⟩ = some (.int .i64 0) ∧ w'.cell? ⟨b9, 2, none⟩ = some (.int .i64 (x : Int)) ∧ w'.cell? ⟨b9, 3, none⟩ = some (.int .i64 (j : Int)) ∧ w'.cell? ⟨b10, 0, none⟩ = some (.int .i64 ((x : Int) + (kerf : Int))) ∧ w'.cell? ⟨b10, 1, none⟩ = some (.int .i64 0) ∧ w'.cell? ⟨b10, 2, none⟩ = some (.int .i64 ((i : Int) - ((x : Int) + (kerf : Int)))) ∧ w'.cell? ⟨b10, 3, none⟩ = some (.int .i64 (j : Int)))
              (first | with_reducible exact ⟨y0, y1, y2, y3, y4, y5, y6, y7⟩ | with_reducible exact ⟨e0, e1, e2, e3, e4, e5, e6, e7⟩ | with_reducible exact ⟨d0, d1, d2, d3, d4, d5, d6, d7⟩ | with_reducible exact hs8)
              ((first
                | (go_at_call 64; (with_reducible refine (HVL.out _ HC0).mono ?_); rintro e w6 ⟨rfl, hb6, e0, e1, e2, e3, e4, e5, e6, e7⟩)
                | (go_at_call 64; (with_reducible refine (HVR.out _ hb6).mono ?_); rintro e w7 ⟨rfl, hb7, d0, d1, d2, d3, d4, d5, d6, d7⟩)
                | (go_at_call 63; (with_reducible refine (HOF.out _ hb7).mono ?_); rintro e w8 ⟨rfl, hch, hs8⟩)))
            clear y0 y1 y2 y3 y4 y5 y6 y7 e0 e1 e2 e3 e4 e5 e6 e7 d0 d1 d2 d3 d4 d5 d6 d7 HVL HVR HOF hsum
            go_wp2_with (fail)
            go_roundw
            case rel => exact ⟨x, by omega, by go_num, Lib.hid (by rw [← HCN.out, HFO.out, Int.sub_sub, ← HWL.out, ← HWR.out]; exact hch.out)⟩
            case measure => simp [intOf]; omega
        · obtain rfl : m = i - 1 := by omega
          have HME := Lib.hid HM.out
          have hlt3 : ¬ (x : Int) < (i : Int) := by omega
          clear hfold hcn hx HM HFO HCN
          go_upto_region 16 with (fail)
          clear r0 r1 r2 r3
          go_loopw [11, 12, 13] (fun t _ _ wr => ∃ m : Nat, m ≤ j - 1 ∧ t = .int .i64 ((m + 1 : Nat) : Int) ∧ Hid (ChM w wr q q1 q2 i j ((offD T kerf i j m).foldl offer ((offA T kerf i j (i - 1)).foldl offer cS)))) (fun t _ _ _ => j - (intOf t).toNat)
          case atStart => exact ⟨0, Nat.zero_le _, rfl, HME⟩
          case round =>
            clear HME
            obtain ⟨m, hmi, rfl, HM⟩ := hrel
            have hfold := congrArg (fun l => List.foldl offer ((offA T kerf i j (i - 1)).foldl offer cS) l) (offD_succ T kerf i j m)
            simp only [List.foldl_append, List.foldl_cons, List.foldl_nil] at hfold
            obtain ⟨x, hx⟩ : ∃ x : Nat, x = m + 1 := ⟨_, rfl⟩
            rw [← hx] at hfold ⊢
            obtain ⟨cn, hcn⟩ : ∃ cn, cn = (offD T kerf i j x).foldl offer ((offA T kerf i j (i - 1)).foldl offer cS) := ⟨_, rfl⟩
            rw [← hcn] at hfold
            have HFO := Lib.hid hfold
            have HCN := Lib.hid hcn
            have HX := Lib.hid hx
            obtain ⟨r0, r1, r2, r3⟩ := HM.out.rcs
            by_cases hlt : x < j
            · have hlt3 : (x : Int) < (j : Int) := by omega
              clear hfold hcn hx
              have k0 : wr.cell? ⟨p, 0, none⟩ = some (.int .i64 (kerf : Int)) := (HSAW.out wr HM.out.bel).1.kf
              obtain ⟨c, hcc⟩ : ∃ c, c = (offD T kerf i j m).foldl offer ((offA T kerf i j (i - 1)).foldl offer cS) := ⟨_, rfl⟩
              rw [← hcc] at HM HFO
              have HCC := Lib.hid hcc
              clear hcc
              have hac := fun W => down_any 0 0 (i : Int) (j : Int) (x : Int) (kerf : Int) W (by omega) (by omega) (by omega) (by have := HKF.out; omega)
              unfold rcV at hac
              have hkp : ∀ W, Below wr.heap.size wr W → W.cell? ⟨q, 0, none⟩ = some (.int .i64 0) ∧ W.cell? ⟨q, 1, none⟩ = some (.int .i64 0) ∧ W.cell? ⟨q, 2, none⟩ = some (.int .i64 (i : Int)) ∧ W.cell? ⟨q, 3, none⟩ = some (.int .i64 (j : Int)) ∧ W.cell? ⟨p, 0, none⟩ = some (.int .i64 (kerf : Int)) := fun W hW => by
                have h1 := HM.out.keep hW
                obtain ⟨a0, a1, a2, a3⟩ := h1.rcs
                exact ⟨a0, a1, a2, a3, (HSAW.out W h1.bel).1.kf⟩
              have hac2 : ∀ W, Below wr.heap.size wr W → Calls Try.prog 57 #[.agg #[.int .i64 0, .int .i64 0, .int .i64 (i : Int), .int .i64 (j : Int)], .int .i64 (x : Int), .int .i64 (kerf : Int)] W fun e w' =>
                  e = .returned (.tuple #[.agg #[.int .i64 0, .int .i64 0, .int .i64 (i : Int), .int .i64 (x : Int)], .agg #[.int .i64 0, .int .i64 (0 + ((x : Int) + (kerf : Int))), .int .i64 (i : Int), .int .i64 ((j : Int) - ((x : Int) + (kerf : Int)))]]) ∧ Below W.heap.size W w' ∧ Below wr.heap.size wr w' ∧ w'.cell? ⟨q, 0, none⟩ = some (.int .i64 0) ∧ w'.cell? ⟨q, 1, none⟩ = some (.int .i64 0) ∧ w'.cell? ⟨q, 2, none⟩ = some (.int .i64 (i : Int)) ∧ w'.cell? ⟨q, 3, none⟩ = some (.int .i64 (j : Int)) ∧ w'.cell? ⟨p, 0, none⟩ = some (.int .i64 (kerf : Int)) :=
                fun W hW => (hac W).mono fun e w' h => ⟨h.1, h.2, below_on hW hW.size h.2, hkp w' (below_on hW hW.size h.2)⟩
              have HAC := Lib.hid hac2
              have B0 : Below wr.heap.size wr wr.drew := (Below.refl wr.heap.size wr).drew
              have B1 : Below wr.heap.size wr (wr.alloc o4).drew := ((Below.refl wr.heap.size wr).alloc (Nat.le_refl _) _).drew
              have B2 : Below wr.heap.size wr ((wr.alloc o4).alloc o4).drew := (((Below.refl wr.heap.size wr).alloc (Nat.le_refl _) _).alloc (by simp) _).drew
              have N1 : Blk 89 (wr.alloc o4).drew wr.heap.size z4 := (Blk.new wr 89 z4).drew
              have N2 : Blk 89 ((wr.alloc o4).alloc o4).drew wr.heap.size z4 := ((Blk.new wr 89 z4).alloc o4).drew
              have N3 : Blk 89 ((wr.alloc o4).alloc o4).drew (wr.heap.size + 1) z4 := (blk_new2 z4).drew
              have HB1 := Lib.hid B1
              have HB2 := Lib.hid B2
              have HB0 := Lib.hid B0
              have HN1 := Lib.hid N1
              have HN2 := Lib.hid N2
              have HN3 := Lib.hid N3
              have HKP := Lib.hid hkp
              have lq : q < wr.heap.size := HM.out.rc.lt
              have lp : p < wr.heap.size := (HSAW.out wr HM.out.bel).1.lt
              have nq : ¬ q = wr.heap.size := Nat.ne_of_lt lq
              have np : ¬ p = wr.heap.size := Nat.ne_of_lt lp
              clear hkp hac hac2 B0 B1 B2 N1 N2 N3
              go_upto_region 18 with (fail)
              go_cut [12, 13] from 66 to 90 (fun a b ww => ∃ b9 b10, a = .pointer (some ⟨b9, 0, none⟩) ∧ b = .pointer (some ⟨b10, 0, none⟩) ∧ Blk 89 ww b9 [.int .i64 0, .int .i64 0, .int .i64 (i : Int), .int .i64 (x : Int)] ∧ Blk 89 ww b10 [.int .i64 0, .int .i64 ((x : Int) + (kerf : Int)), .int .i64 (i : Int), .int .i64 ((j : Int) - ((x : Int) + (kerf : Int)))] ∧ Below wr.heap.size wr ww ∧ wr.heap.size ≤ b9 ∧ wr.heap.size ≤ b10)
              case first =>
                go_region_held3 (fun w' => w'.cell? ⟨q, 0, none⟩ = some (.int .i64 0) ∧ w'.cell? ⟨q, 1, none⟩ = some (.int .i64 0) ∧ w'.cell? ⟨q, 2, none⟩ = some (.int .i64 (i : Int)) ∧ w'.cell? ⟨q, 3, none⟩ = some (.int .i64 (j : Int)) ∧ w'.cell? ⟨p, 0, none⟩ = some (.int .i64 (kerf : Int)))
                  (first | with_reducible exact ⟨r0, r1, r2, r3, k0⟩ | with_reducible exact ⟨x0, x1, x2, x3, x4⟩ | with_reducible exact HKP.out _ HB0.out | with_reducible exact HKP.out _ HB1.out | with_reducible exact HKP.out _ HB2.out | ((with_reducible refine HKP.out _ ?_); repeat (first | with_reducible exact hb5 | with_reducible exact HB0.out | with_reducible exact HB1.out | with_reducible exact HB2.out | ((with_reducible refine below_set ?_ ?_ _); rotate_left; focus (first | omega | (simp; omega))) | ((with_reducible refine bel_alloc ?_ ?_); rotate_left; focus (first | omega | (simp; omega))))))
                  ((first
                    | (go_at_call 57; (with_reducible refine (HAC.out _ HB0.out).mono ?_); rintro e w5 ⟨rfl, _hbW, hb5, x0, x1, x2, x3, x4⟩; have sz5 := hb5.size)
                    | (go_at_call 57; (with_reducible refine (HAC.out _ HB1.out).mono ?_); rintro e w5 ⟨rfl, hbW, hb5, x0, x1, x2, x3, x4⟩; have sz5 := hb5.size; have M1 := HN1.out.keep hbW; obtain ⟨m0, m1, m2, m3, m4⟩ := z4c M1; have n1 : ¬ wr.heap.size = w5.heap.size := Nat.ne_of_lt M1.lt; have n2 : ¬ w5.heap.size = wr.heap.size := Nat.ne_of_gt M1.lt; have l1 : wr.heap.size < w5.heap.size := M1.lt)
                    | (go_at_call 57; (with_reducible refine (HAC.out _ HB2.out).mono ?_); rintro e w5 ⟨rfl, hbW, hb5, x0, x1, x2, x3, x4⟩; have sz5 := hb5.size; have M2 := HN2.out.keep hbW; have M3 := HN3.out.keep hbW; obtain ⟨m0, m1, m2, m3, m4⟩ := z4c M2; obtain ⟨l0, l1, l2, l3, l4⟩ := z4c M3; have g1 : wr.heap.size < w5.heap.size := M2.lt; have g2 : wr.heap.size + 1 < w5.heap.size := M3.lt)))
                all_goals
                  go_wp2_with (fail)
                  go_meet
                  case rel =>
                    refine ⟨_, _, rfl, rfl, ?_, ?_, ?_, by omega, by omega⟩
                    · first
                        | with_reducible exact (Blk.new _ 89 [_, _, _, _]).alloc _
                        | with_reducible exact blk_new2 [_, _, _, _]
                        | with_reducible exact (set4 M1 _ _ _ _).alloc _
                        | with_reducible exact blk_news [_, _, _, _]
                        | with_reducible exact far4 (set4 M2 _ _ _ _) (by omega) _ _ _ _
                        | with_reducible exact far4 (set4 M3 _ _ _ _) (by omega) _ _ _ _
                    · first
                        | with_reducible exact (Blk.new _ 89 [_, _, _, _]).alloc _
                        | with_reducible exact blk_new2 [_, _, _, _]
                        | with_reducible exact (set4 M1 _ _ _ _).alloc _
                        | with_reducible exact blk_news [_, _, _, _]
                        | with_reducible exact set4 (far4 M2 (by omega) _ _ _ _) _ _ _ _
                        | with_reducible exact set4 (far4 M3 (by omega) _ _ _ _) _ _ _ _
                    · repeat (first | with_reducible exact hb5 | ((with_reducible refine below_set ?_ ?_ _); rotate_left; focus (first | omega | (simp; omega))) | ((with_reducible refine bel_alloc ?_ ?_); rotate_left; focus (first | omega | (simp; omega))))
              case rest =>
                obtain ⟨b9, b10, rfl, rfl, hl9, hl10, hbl, hg9, hg10⟩ := hcut
                clear HB0 HB1 HB2 HN1 HN2 HN3 HKP HAC nq np lq lp r0 r1 r2 r3 k0
                have HM1 := Lib.hid (HM.out.keep hbl)
                have hn9 : b9 ≠ q2 := by have := HM.out.ch.lt; omega
                have hn10 : b10 ≠ q2 := by have := HM.out.ch.lt; omega
                clear hbl hg9 hg10 HM
                have hkp : ∀ W, Below wc.heap.size wc W → W.cell? ⟨b9, 0, none⟩ = some (.int .i64 0) ∧ W.cell? ⟨b9, 1, none⟩ = some (.int .i64 0) ∧ W.cell? ⟨b9, 2, none⟩ = some (.int .i64 (i : Int)) ∧ W.cell? ⟨b9, 3, none⟩ = some (.int .i64 (x : Int)) ∧ W.cell? ⟨b10, 0, none⟩ = some (.int .i64 0) ∧ W.cell? ⟨b10, 1, none⟩ = some (.int .i64 ((x : Int) + (kerf : Int))) ∧ W.cell? ⟨b10, 2, none⟩ = some (.int .i64 (i : Int)) ∧ W.cell? ⟨b10, 3, none⟩ = some (.int .i64 ((j : Int) - ((x : Int) + (kerf : Int)))) := fun W hW => by
                  have h1 := hl9.keep hW
                  have h2 := hl10.keep hW
                  exact ⟨h1.cell 0, h1.cell 1, h1.cell 2, h1.cell 3, h2.cell 0, h2.cell 1, h2.cell 2, h2.cell 3⟩
                obtain ⟨vl, hvl⟩ : ∃ vl, vl = pv T (i : Int) (x : Int) := ⟨_, rfl⟩
                obtain ⟨vr, hvr⟩ : ∃ vr, vr = pv T (i : Int) ((j : Int) - ((x : Int) + (kerf : Int))) := ⟨_, rfl⟩
                have hbl1 := HT.out (i : Int) (x : Int) (by omega) (by omega)
                have hbl2 := HT.out (i : Int) ((j : Int) - ((x : Int) + (kerf : Int))) (by omega) (by omega)
                rw [← hvl] at hbl1
                rw [← hvr] at hbl2
                have hval : ∀ W, Below wc.heap.size wc W → Calls Try.prog 64 #[.pointer (some ⟨p, 0, none⟩), .agg #[.int .i64 0, .int .i64 0, .int .i64 (i : Int), .int .i64 (x : Int)]] W fun e w' => e = .returned (.int .i64 vl) ∧ Below wc.heap.size wc w' ∧ w'.cell? ⟨b9, 0, none⟩ = some (.int .i64 0) ∧ w'.cell? ⟨b9, 1, none⟩ = some (.int .i64 0) ∧ w'.cell? ⟨b9, 2, none⟩ = some (.int .i64 (i : Int)) ∧ w'.cell? ⟨b9, 3, none⟩ = some (.int .i64 (x : Int)) ∧ w'.cell? ⟨b10, 0, none⟩ = some (.int .i64 0) ∧ w'.cell? ⟨b10, 1, none⟩ = some (.int .i64 ((x : Int) + (kerf : Int))) ∧ w'.cell? ⟨b10, 2, none⟩ = some (.int .i64 (i : Int)) ∧ w'.cell? ⟨b10, 3, none⟩ = some (.int .i64 ((j : Int) - ((x : Int) + (kerf : Int)))) := fun W hW => by
                  rw [hvl]
                  exact (value_any p kerf A _ cp T _ _ _ _ W (HSAW.out W (HM1.out.keep hW).bel).1 (by omega) (by omega)).mono fun e w' h => ⟨h.1, below_on hW hW.size h.2, hkp w' (below_on hW hW.size h.2)⟩
                have hvar : ∀ W, Below wc.heap.size wc W → Calls Try.prog 64 #[.pointer (some ⟨p, 0, none⟩), .agg #[.int .i64 0, .int .i64 ((x : Int) + (kerf : Int)), .int .i64 (i : Int), .int .i64 ((j : Int) - ((x : Int) + (kerf : Int)))]] W fun e w' => e = .returned (.int .i64 vr) ∧ Below wc.heap.size wc w' ∧ w'.cell? ⟨b9, 0, none⟩ = some (.int .i64 0) ∧ w'.cell? ⟨b9, 1, none⟩ = some (.int .i64 0) ∧ w'.cell? ⟨b9, 2, none⟩ = some (.int .i64 (i : Int)) ∧ w'.cell? ⟨b9, 3, none⟩ = some (.int .i64 (x : Int)) ∧ w'.cell? ⟨b10, 0, none⟩ = some (.int .i64 0) ∧ w'.cell? ⟨b10, 1, none⟩ = some (.int .i64 ((x : Int) + (kerf : Int))) ∧ w'.cell? ⟨b10, 2, none⟩ = some (.int .i64 (i : Int)) ∧ w'.cell? ⟨b10, 3, none⟩ = some (.int .i64 ((j : Int) - ((x : Int) + (kerf : Int)))) := fun W hW => by
                  rw [hvr]
                  exact (value_any p kerf A _ cp T _ _ _ _ W (HSAW.out W (HM1.out.keep hW).bel).1 (by omega) (by omega)).mono fun e w' h => ⟨h.1, below_on hW hW.size h.2, hkp w' (below_on hW hW.size h.2)⟩
                have hoff : ∀ W, Below wc.heap.size wc W → Calls Try.prog 63 #[.pointer (some ⟨q2, 0, none⟩), .int .i64 4, .int .i64 (x : Int), .int .i64 (vl + vr)] W fun e w' => e = .returned (.tuple #[]) ∧ Hid (ChM w w' q q1 q2 i j (offer c ⟨4, x, vl + vr⟩)) ∧ w'.cell? ⟨b9, 0, none⟩ = some (.int .i64 0) ∧ w'.cell? ⟨b9, 1, none⟩ = some (.int .i64 0) ∧ w'.cell? ⟨b9, 2, none⟩ = some (.int .i64 (i : Int)) ∧ w'.cell? ⟨b9, 3, none⟩ = some (.int .i64 (x : Int)) ∧ w'.cell? ⟨b10, 0, none⟩ = some (.int .i64 0) ∧ w'.cell? ⟨b10, 1, none⟩ = some (.int .i64 ((x : Int) + (kerf : Int))) ∧ w'.cell? ⟨b10, 2, none⟩ = some (.int .i64 (i : Int)) ∧ w'.cell? ⟨b10, 3, none⟩ = some (.int .i64 ((j : Int) - ((x : Int) + (kerf : Int)))) := fun W hW => by
                  have hm := HM1.out.keep hW
                  refine (offer_any q2 c 4 x (vl + vr) W hm.ch).mono fun e w' h => ⟨h.1, Lib.hid (hm.off h.2.1 h.2.2.2.1 h.2.2.2.2), ?_⟩
                  have h1 := (hl9.keep hW).of_block (h.2.2.2.2 b9 hn9)
                  have h2 := (hl10.keep hW).of_block (h.2.2.2.2 b10 hn10)
                  exact ⟨h1.cell 0, h1.cell 1, h1.cell 2, h1.cell 3, h2.cell 0, h2.cell 1, h2.cell 2, h2.cell 3⟩
                have hsum : IntKind.i64.wrap (vl + vr) = vl + vr := wrapI (by omega) (by omega)
                have HC0 : Below wc.heap.size wc wc.drew := (Below.refl wc.heap.size wc).drew
                obtain ⟨y0, y1, y2, y3, y4, y5, y6, y7⟩ := hkp wc.drew HC0
                have HVL := Lib.hid hval
                have HVR := Lib.hid hvar
                have HOF := Lib.hid hoff
                have HWL := Lib.hid hvl
                have HWR := Lib.hid hvr
                clear hkp hval hvar hoff hl9 hl10 hvl hvr hbl1 hbl2 HM1
                go_upto_region 19 with (fail)
                go_region_held3 (fun w' => w'.cell? ⟨b9, 0, none⟩ = some (.int .i64 0) ∧ w'.cell? ⟨b9, 1, none⟩ = some (.int .i64 0) ∧ w'.cell? ⟨b9, 2, none⟩ = some (.int .i64 (i : Int)) ∧ w'.cell? ⟨b9, 3, none⟩ = some (.int .i64 (x : Int)) ∧ w'.cell? ⟨b10, 0, none⟩ = some (.int .i64 0) ∧ w'.cell? ⟨b10, 1, none⟩ = some (.int .i64 ((x : Int) + (kerf : Int))) ∧ w'.cell? ⟨b10, 2, none⟩ = some (.int .i64 (i : Int)) ∧ w'.cell? ⟨b10, 3, none⟩ = some (.int .i64 ((j : Int) - ((x : Int) + (kerf : Int)))))
                  (first | with_reducible exact ⟨y0, y1, y2, y3, y4, y5, y6, y7⟩ | with_reducible exact ⟨e0, e1, e2, e3, e4, e5, e6, e7⟩ | with_reducible exact ⟨d0, d1, d2, d3, d4, d5, d6, d7⟩ | with_reducible exact hs8)
                  ((first
                    | (go_at_call 64; (with_reducible refine (HVL.out _ HC0).mono ?_); rintro e w6 ⟨rfl, hb6, e0, e1, e2, e3, e4, e5, e6, e7⟩)
                    | (go_at_call 64; (with_reducible refine (HVR.out _ hb6).mono ?_); rintro e w7 ⟨rfl, hb7, d0, d1, d2, d3, d4, d5, d6, d7⟩)
                    | (go_at_call 63; (with_reducible refine (HOF.out _ hb7).mono ?_); rintro e w8 ⟨rfl, hch, hs8⟩)))
                clear y0 y1 y2 y3 y4 y5 y6 y7 e0 e1 e2 e3 e4 e5 e6 e7 d0 d1 d2 d3 d4 d5 d6 d7 HVL HVR HOF hsum
                go_wp2_with (fail)
                go_roundw
                case rel => exact ⟨x, by omega, by go_num, Lib.hid (by rw [← HCN.out, HFO.out, Int.sub_sub, ← HWL.out, ← HWR.out]; exact hch.out)⟩
                case measure => simp [intOf]; omega
            · obtain rfl : m = j - 1 := by omega
              have HME := Lib.hid HM.out
              have hlt3 : ¬ (x : Int) < (j : Int) := by omega
              clear hfold hcn hx HM HFO HCN
              obtain ⟨d', hd, hmm⟩ := Option.map_eq_some_iff.1 und79
              have hmt := HME.out
              have hfin : (offD T kerf i j (j - 1)).foldl offer ((offA T kerf i j (i - 1)).foldl offer cS) = choF T kerf ss i j := by
                unfold choF offs
                rw [List.foldl_append, List.foldl_append, HCS.out]
              rw [hfin] at hmt
              obtain ⟨cF, hcF⟩ : ∃ cF, cF = choF T kerf ss i j := ⟨_, rfl⟩
              rw [← hcF] at hmt
              have HCF := Lib.hid hcF
              have HMT := Lib.hid hmt
              have v0 : wr.cell? ⟨q2, 0, none⟩ = some (.int .i64 cF.k) := hmt.ch.cell 0
              have v1 : wr.cell? ⟨q2, 1, none⟩ = some (.int .i64 cF.a) := hmt.ch.cell 1
              have v2 : wr.cell? ⟨q2, 2, none⟩ = some (.int .i64 cF.v) := hmt.ch.cell 2
              have o0 : wr.cell? ⟨q1, 0, none⟩ = some (.int .i64 0) := hmt.rv.cell 0
              have o1 : wr.cell? ⟨q1, 1, none⟩ = some (.int .i64 0) := hmt.rv.cell 1
              have o2 : wr.cell? ⟨q1, 2, none⟩ = some (.int .i64 0) := hmt.rv.cell 2
              have of : ∀ i, wr.frozen? ⟨q1, i, none⟩ = false := hmt.rv.frozen
              have hres : Blk 79 (((wr.setCell ⟨q1, 0, none⟩ (.int .i64 cF.k)).setCell ⟨q1, 1, none⟩ (.int .i64 cF.a)).setCell ⟨q1, 2, none⟩ (.int .i64 cF.v)) q1 (choC cF) := ((hmt.rv.set 0 _).set 1 _).set 2 _
              have hbl : Below w.heap.size w (((wr.setCell ⟨q1, 0, none⟩ (.int .i64 cF.k)).setCell ⟨q1, 1, none⟩ (.int .i64 cF.a)).setCell ⟨q1, 2, none⟩ (.int .i64 cF.v)) := by
                have h1 := hmt.lt
                have h2 := hmt.bel
                have h3 := HQ.out
                rw [← h3]
                exact below_set (below_set (below_set h2 (by omega) _) (by omega) _) (by omega) _
              have HRES := Lib.hid hres
              have HBL := Lib.hid hbl
              clear hmt hfin hcF hres hbl HMT HME HSAW HT
              clear r0 r1
              go_wp2
              refine bodyPost_ret (results_cell_row rfl _ _ _ _ _ _ d' rfl HRES.out hd ?_ size79) rfl ⟨by rw [← HCF.out]; rfl, HBL.out⟩
              cases d' <;> first | rfl | exact absurd hmm (by simp)
end Go.Proofs.Ytkfjlgjncaddpaa
