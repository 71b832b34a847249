/- Part of the proof of NatTexts: Text, Clone, MulIn, Parse, TxtLaws, BackW, TextsW. -/
import Derived.Test.YtaegkhdkhgemmaaPartG
import Derived.Test.YtaegkhdkhgemmaaPartH
import Derived.Test.YtaegkhdkhgemmaaPartE
import Derived.Test.YtaegkhdkhgemmaaPartD
import Derived.Sort.CutIn
import Derived.RangeFuncBox
import Derived.Maps.AppendAt
import Derived.Maps.OwnIn
import Derived.Lib.SliceRun
import Derived.Test.YtaegkhdkhgemmaaPartC
import Derived.Lib.Strings
import Derived.Laws.Strings3
/- nat.Text: numbers to decimal texts. -/
namespace Go.Proofs.Ytaegkhdkhgemmaa
open Go.RowKit Go.Shelf Num
attribute [local go_sem] Oper.semAt_some

theorem info5 : (Try.prog.info? 5).map (fun i => (i.zero, i.size, i.bytes)) = some (some (.int .u8 0), 1, 1) := by kernel_rfl

/-- The bytes of digits, as they come. -/
def byt (pre : List (Fin 10)) : List Nat := pre.map (fun x => 48 + x.val)
/-- Between two rounds: the box of the text. -/
def TI (G : Nat) (w : World) (pre : List (Fin 10)) (W : World) : Prop := (∃ v, Boxed W G 85 v ∧ W.ownsRow G 5 1 v pre.length (ints .u8 (byt pre))) ∧ Below G w W
theorem ti_own {G n : Nat} {w : World} (hn : G ≤ n) (hw : G ≤ w.heap.size) : OwnFrom n (TI G w) := by
  rintro pre X Y row ⟨⟨v, h1, h2⟩, h3⟩ hg hr
  have hr' : ∀ r, row = some r → ∃ o : Obj, X.heap[r]? = some o ∧ o.isCells = false := fun r e => (hr r e).2
  exact ⟨⟨v, boxed_grown h1 hg hr', ownsRow_grown h2 hg hr'⟩, below_grown h3 hg (Nat.le_trans hw h3.size) (fun r e => Nat.le_trans hn (hr r e).1)⟩

theorem len_ten_bits {n K : Nat} (h : nbits n ≤ K) : (dig 10 n).length ≤ K := dig_len_le (by omega) (Nat.lt_of_lt_of_le (lt_of_nbits h) (Nat.pow_le_pow_left (by omega) _))
theorem byt_snoc (pre : List (Fin 10)) (x : Fin 10) : byt (pre ++ [x]) = byt pre ++ [48 + x.val] := by simp [byt]
theorem byt_len (pre : List (Fin 10)) : (byt pre).length = pre.length := by simp [byt]
theorem byt_cells {W : World} {g cap n : Nat} {bs : List Nat} (h : Hb W g cap bs.reverse) (hn : bs.length = n) : ∀ i, i < n → W.cell? ⟨g, 0 + i, none⟩ = some (.int .u8 ((bs.reverse.map fun (z : Nat) => (z : Int)).getD i 0)) := by
  intro i hi
  have hl : i < bs.reverse.length := by rw [List.length_reverse]; omega
  rw [Nat.zero_add, h.cell (List.getElem?_eq_getElem hl)]
  generalize bs.reverse = rs at *
  rw [List.getD, List.getElem?_map, List.getElem?_eq_getElem hl]
  rfl
/-- A text and an error. -/
def TextPost (w : World) (cs : List Nat) (k : Int) (e : Ending) (w' : World) : Prop := ∃ s, e = .returned (.tuple #[.string s, .int .i64 k]) ∧ codes s = cs ∧ Below w.heap.size w w'

set_option maxHeartbeats 1000000 in
set_option maxRecDepth 100000 in
theorem text_bad (a : Value) (xs : List Nat) (w : World) (ha : Limbs w a xs) (h0 : chk xs ≠ 0) : Calls Try.prog 62 #[a] w (TextPost w [] (chk xs)) := by
  have h := bits_bad a xs w ha h0
  generalize chk xs = r at *
  have hq : (r != 0) = true := by simp [h0]
  have H := Lib.hid h
  clear h h0 ha
  refine (callsIn_wide (n := 6)).1 ?_
  have hF : Free Fence.wide Try.prog := free_wide
  have hfn := hF.fn
  have hdd := hF.room
  generalize hFd : Fence.wide = F at *
  have hro : F.round = none := by rw [← hFd]; rfl
  clear hFd
  refine callsIn_of_wp_marks Try.func62 rfl (hfn _) ?_ hro
  simp only [Try.ntmps62, List.size_toArray, List.length_cons, List.length_nil, Nat.reduceAdd, Nat.reduceSub, Array.replicate_succ, Array.replicate_zero, List.push_toArray, List.append_toArray, List.nil_append, List.cons_append]
  gi_wp2_with ((try refine ⟨hdd _, ?_⟩); gi_at_call 28; refine (hF.calls _ _ _ _ _ H.out).mono ?_; rintro e w1 ⟨rfl, hb1⟩)
  refine ⟨.tuple #[.string ByteArray.empty, .int .i64 r], ?_, _, rfl, rfl, hb1⟩
  simp [results, Try.f62, go_sem]
  rfl

set_option maxHeartbeats 1000000 in
set_option maxRecDepth 100000 in
theorem text_zero (a : Value) (x : Nat) (w : World) (ha : N32 w a x) (h0 : x = 0) : Calls Try.prog 62 #[a] w (TextPost w [48] 0) := by
  subst h0
  have h := bits_ok a 0 w ha (by rw [dig_zero]; simp)
  have hz : nbits 0 = 0 := by rfl
  rw [hz] at h
  have H := Lib.hid h
  clear h ha
  refine (callsIn_wide (n := 6)).1 ?_
  have hF : Free Fence.wide Try.prog := free_wide
  have hfn := hF.fn
  have hdd := hF.room
  generalize hFd : Fence.wide = F at *
  have hro : F.round = none := by rw [← hFd]; rfl
  clear hFd
  refine callsIn_of_wp_marks Try.func62 rfl (hfn _) ?_ hro
  simp only [Try.ntmps62, List.size_toArray, List.length_cons, List.length_nil, Nat.reduceAdd, Nat.reduceSub, Array.replicate_succ, Array.replicate_zero, List.push_toArray, List.append_toArray, List.nil_append, List.cons_append]
  gi_wp2_with ((try refine ⟨hdd _, ?_⟩); gi_at_call 28; refine (hF.calls _ _ _ _ _ H.out).mono ?_; rintro e w1 ⟨rfl, hb1⟩)
  refine ⟨.tuple #[.string ⟨#[48]⟩, .int .i64 0], ?_, _, rfl, rfl, hb1⟩
  simp [results, Try.f62, go_sem]

set_option maxHeartbeats 4000000 in
set_option maxRecDepth 100000 in
theorem text_ok (a : Value) (x : Nat) (w : World) (ha : N32 w a x) (h0 : x ≠ 0) (hx : (dig B32 x).length ≤ 200) : Calls Try.prog 62 #[a] w (TextPost w (tx x) 0) := by
  have h := bits_ok a x w ha (by omega)
  have hnb := nbits_ne h0
  have hnb2 := bits_of_len hx
  have hdl : (dig B64 x).length ≤ 150 := by
    have := words_le (n := x) (K := 100) (by omega)
    omega
  have hd10 := len_ten_bits hnb2
  have hne : 0 < (dig 10 x).length := by
    rcases Nat.eq_zero_or_pos (dig 10 x).length with h | h
    · have := (dig_nil_iff (b := 10) (by omega)).1 (List.eq_nil_of_length_eq_zero h); omega
    · exact h
  have hdg := fun W (h : N32 W a x) => digits_ok a x 10 W h (by omega) (by omega)
  have H := Lib.hid h
  have HDG : Hid (∀ W, N32 W a x → Calls Try.prog 67 #[a, .int .u32 10] W (DigPost x 10 W)) := Lib.hid hdg
  have hfl := fds_len 10 (by omega) (dig 10 x)
  obtain ⟨DS, hDS⟩ : ∃ DS, fds 10 (by omega) (dig 10 x) = DS := ⟨_, rfl⟩
  have hby : byt DS = (dig 10 x).map (48 + ·) := by
    rw [← hDS]
    simp only [byt, fds, List.map_map]
    refine List.map_congr_left fun y hy => ?_
    show 48 + y % 10 = 48 + y
    rw [Nat.mod_eq_of_lt (low_dig (by omega) x y hy)]
  obtain ⟨B, hB⟩ : ∃ B, nbits x = B := ⟨_, rfl⟩
  rw [hB] at H hnb hnb2
  have hq0 : ((B : Int) == 0) = false := beq_eq_false_iff_ne.2 (by omega)
  have hq8 : decide ((80000 : Int) < (B : Int)) = false := decide_eq_false (by omega)
  have HBY := Lib.hid hby
  have HDL := Lib.hid hdl
  clear h hdg hby hdl hB
  refine (callsIn_wide (n := 6)).1 ?_
  have hF : Free Fence.wide Try.prog := free_wide
  have hfn := hF.fn
  have hdd := hF.room
  generalize hFd : Fence.wide = F at *
  have hro : F.round = none := by rw [← hFd]; rfl
  clear hFd
  refine callsIn_of_wp_marks Try.func62 rfl (hfn _) ?_ hro
  simp only [Try.ntmps62, List.size_toArray, List.length_cons, List.length_nil, Nat.reduceAdd, Nat.reduceSub, Array.replicate_succ, Array.replicate_zero, List.push_toArray, List.append_toArray, List.nil_append, List.cons_append]
  gi_wp2_with (first
    | ((try refine ⟨hdd _, ?_⟩); gi_at_call 28; refine (hF.calls _ _ _ _ _ H.out).mono ?_; rintro e w1 ⟨rfl, hb1⟩)
    | ((try refine ⟨hdd _, ?_⟩); gi_at_call 67; refine (hF.calls _ _ _ _ _ (HDG.out _ ((ha.keep hb1).keep (below_new w1 _)))).mono ?_; rintro e w3 ⟨bb, bw, vw, rfl, g1, g2, g3, g4, g5, g6, g7, hb3⟩))
  obtain ⟨G, hG⟩ : ∃ G, w1.heap.size = G := ⟨_, rfl⟩
  have hbx : Boxed w3 G 85 (.slice none 0 0) := (hb3.block G (by rw [← hG]; simp)).trans (by rw [← hG]; exact Boxed.new w1 85 _)
  have hs3 : G < w3.heap.size := hbx.lt
  have hbw : Below w.heap.size w w3 := below_at (below_at hb1 (Nat.le_refl _) (below_new w1 _)) (Nat.le_refl _) hb3
  have hGw : w.heap.size ≤ G := by rw [← hG]; exact hb1.size
  have hseq := digits_stops F hF hro (RColl G) 5 10 bb bw x vw w3 (by omega) (by unfold B32; omega) HDL.out g2 g5 g4 g6 g7.is (rcoll_rb hs3) (rcoll_good hbx (World.ownsRow_nil w3 G 5 1))
  rw [hDS] at hseq hfl
  have hen := enters_of Try.func103 (by kernel_rfl) rfl
  have hti : TI G w3 [] w3 := ⟨⟨_, hbx, World.ownsRow_nil w3 G 5 1⟩, Below.refl _ _⟩
  obtain ⟨i0, hi, hz0, hz1, hz2⟩ := info_parts info5
  rw [hG]
  clear g1 g2 g3 g4 g5 g6 g7 hb3 hG hb1 hDS
  refine wpIn_rangeFunc_ownG hro (by omega) (gf := 103) (lb := _) rfl (hfn _) hen hseq kpS_t (kpS_b (rcoll_rb hs3) (Nat.le_refl _)) (Below.refl _ _) (fun _ => rfl)
    (TI G w3) (fun _ _ _ => False) (ti_own (by omega) (by omega)) (fun _ _ _ _ _ hs _ _ => hs) hti ?a1 ?assign ?body ?done ?stop
  case assign =>
    intro l x W K hK
    gi_wp2
    exact hK
  case body =>
    rintro l pre xd W ⟨⟨v, h1, h2⟩, h3⟩ hlen
    have k1 := h1.cell
    have f1 := h1.frozen
    have hfi := (hF.inRound l).fn
    have hdi := (hF.inRound l).room
    have hnW : G ≤ W.heap.size := by have := h1.lt; omega
    have hxd := xd.2
    have hpl : pre.length ≤ 6400 := by omega
    have hsn := byt_snoc pre xd
    obtain ⟨d, hd⟩ : ∃ d, xd.val = d := ⟨_, rfl⟩
    rw [hd] at hxd hsn
    obtain ⟨y, hy⟩ : ∃ y, 48 + d = y := ⟨_, rfl⟩
    rw [hy] at hsn
    have e1 : IntKind.u32.wrap (48 + (d : Int)) = (y : Int) := by rw [IntKind.wrap_u32']; omega
    have e1' : (48 + (d : Int)) % 4294967296 = (y : Int) := by omega
    have e2 : IntKind.u8.wrap (y : Int) = (y : Int) := by rw [IntKind.wrap_u8]; omega
    have e2' : (y : Int) % 256 = (y : Int) := by omega
    have H2 := Lib.hid h2
    have H1 := Lib.hid h1
    have H3 := Lib.hid h3
    have HSN := Lib.hid hsn
    have HPL := Lib.hid hpl
    clear h2 h3 hti hseq hy hsn hpl
    gi_wp2_with (gi_at_builtin
                 refine wpListIn_append_own_at _ rfl _ _ 85 rfl G 5 i0 (.int .u8 0) 1 1 Try.underlying85 hi hz0 hz1 hz2 rfl (by decide) _ pre.length _ rfl (H2.out.alloc _) ⟨W.heap.size, 0, none⟩ 1 1 [.int .u8 (y : Int)] rfl rfl (cell_one_new _ _ _) (ints_one .u8 [y]) (by have := HPL.out; unfold maxLen; omega) (by have := HPL.out; omega) (by simp; omega) ?_
                 intro v' w8 hown8 hgr8 _ hat8
                 obtain ⟨g8, cap8, rfl⟩ := ownsRow_succ hown8
                 obtain ⟨a1, a2, a3, a4, a5⟩ := H1.out.appended (by decide) H2.out hnW (by omega) hown8 hgr8
                 have a1c := a1.cell
                 have a1f := a1.frozen
                 have A3 := Lib.hid a3
                 have A6 := Lib.hid (collected H1.out H2.out hown8 hgr8 hat8 (by decide))
                 clear a3 hown8 hgr8 hat8)
    refine ⟨a4.from _, A6.out, ⟨_, a2, ?_⟩, H3.out.trans a5⟩
    have := A3.out
    rw [HSN.out, List.length_append, List.length_singleton]
    simpa [ints] using this
  case done =>
    rintro D ys' W hD hDSe hci hK
    rw [hDSe] at hci
    clear hDSe hseq hti
    obtain ⟨⟨v, h1, h2⟩, h3⟩ := hci
    have hbl : (byt DS).length = DS.length := byt_len DS
    have h2' : W.ownsRow G 5 1 v (byt DS).length (ints .u8 (byt DS)) := by rw [hbl]; exact h2
    obtain ⟨g, cap, rfl, hgG, _, hb⟩ := Hb.of_owns h2' (fun e0 => by
      rcases h2.2 with ⟨_, h⟩ | ⟨g, cap, cur, h, _⟩
      · omega
      · rw [e0] at h; cases h)
    have hgne := h1.not_row (by decide) h2
    rw [hbl] at h1
    have hn64 : DS.length ≤ 6400 := by omega
    have k1 := h1.cell
    have hq2 : decide ((20000 : Int) < (DS.length : Int)) = false := decide_eq_false (by omega)
    have hrv := reverse_any g cap DS.length (byt DS) W hb hbl.symm (by omega)
    have hbW : Below w.heap.size w W := hbw.trans (h3.mono hGw)
    have HRV := Lib.hid hrv
    have hgD : some D ≠ some g := fun e => by
      injection e with e
      obtain ⟨cur, hh, _⟩ := hb
      rw [← e, hK] at hh
      cases hh
    have H1 := Lib.hid h1
    have HNE : Hid (some G ≠ some g) := Lib.hid hgne
    have HD := Lib.hid hgD
    have HBL := Lib.hid hbl
    have hwD : w.heap.size ≤ D := by have := hbw.size; omega
    clear h2 h2' hrv h1 hb hgne h3 hgD hbl hfl hne hd10
    gi_wp2_with (fail)
    refine (hF.calls _ _ _ _ _ HRV.out).mono ?_
    rintro e W1 ⟨⟨vr, rfl⟩, hr1, hgr1⟩
    have k2 := (H1.out.kept hgr1 HNE.out).cell
    have hK1 := (hgr1.block D (Array.getElem?_eq_some_iff.1 hK).1 HD.out).trans hK
    have hcv := run_convert_bytes_arg (P := Try.prog) W1 85 5 Try.underlying85 Try.underlying5 g 0 DS.length cap ((byt DS).reverse.map fun (z : Nat) => (z : Int)) (by rw [List.length_map, List.length_reverse]; exact HBL.out) (byt_cells hr1 HBL.out) 9 Try.underlying9
    have hbl1 : Below w.heap.size w W1 := hbW.grown hgr1 hbW.size (by rintro k e; injection e with e; omega)
    obtain ⟨st, hst⟩ : ∃ st, strOfNums ((byt DS).reverse.map fun (z : Nat) => (z : Int)) = st := ⟨_, rfl⟩
    rw [hst] at hcv
    have HST := Lib.hid hst
    clear hst hr1 hgr1
    gi_wp2_with (fail)
    refine ⟨by simp, .inl ⟨_, _, rfl, run_takeDeferred hK1, ?_⟩⟩
    refine ⟨.tuple #[.string st, .int .i64 0], ?_, st, rfl, ?_, hbl1.trans (belowK_b (w := w) (Nat.le_refl _) _ D _ _ hwD hK1 rfl rfl)⟩
    · simp [results, Try.f62, go_sem]
    · rw [← HST.out, codes_nums _ (fun z hz => ?_), HBY.out, tx, List.map_reverse]
      rw [List.mem_reverse] at hz
      simp only [byt, List.mem_map] at hz
      obtain ⟨f, _, rfl⟩ := hz
      have := f.2
      omega
  case stop =>
    rintro D c pre W hD _ h _
    exact h.elim
end Go.Proofs.Ytaegkhdkhgemmaa

namespace Go.Proofs.Ytaegkhdkhgemmaa
open Go.RowKit Num

/-- Block g is a row of the call's own, of cap words; its first are xs, of the others nothing is said. -/
def Hd (w : World) (g cap : Nat) (xs : List Nat) : Prop :=
  ∃ cur : Array Value, w.heap[g]? = some (.cells cur 24 (0, 0)) ∧ xs.length ≤ cap ∧ cap ≤ maxLen ∧ cur.size = cap ∧ cur.toList.take xs.length = ints .u64 xs
namespace Hd
variable {w w' : World} {g cap : Nat} {xs : List Nat}
theorem cell (h : Hd w g cap xs) {i v : Nat} (hv : xs[i]? = some v) : w.cell? ⟨g, i, none⟩ = some (.int .u64 (v : Int)) := by
  obtain ⟨cur, hb, _, _, _, ht⟩ := h
  have hi : i < xs.length := (List.getElem?_eq_some_iff.1 hv).1
  have e : (cur.toList.take xs.length)[i]? = some (.int .u64 (v : Int)) := by rw [ht]; simp [ints, hv]
  rw [List.getElem?_take, if_pos hi] at e
  simpa [World.cell?, hb] using e
theorem frozen (h : Hd w g cap xs) (i : Nat) : w.frozen? ⟨g, i, none⟩ = false := by
  obtain ⟨cur, hb, _⟩ := h
  simp [World.frozen?, hb]
theorem lt (h : Hd w g cap xs) : g < w.heap.size := by
  obtain ⟨cur, hb, _⟩ := h
  exact (Array.getElem?_eq_some_iff.1 hb).1
theorem cap_le (h : Hd w g cap xs) : xs.length ≤ cap := by obtain ⟨_, _, h, _⟩ := h; exact h
theorem of_block (h : Hd w g cap xs) (e : w'.heap[g]? = w.heap[g]?) : Hd w' g cap xs := by
  obtain ⟨cur, hb, r⟩ := h
  exact ⟨cur, e.trans hb, r⟩
theorem keep (h : Hd w g cap xs) (hb : Below w.heap.size w w') : Hd w' g cap xs := h.of_block (hb.block g h.lt)
theorem grown {row : Option Nat} (h : Hd w g cap xs) (hb : w.grownBy w' row) (hg : some g ≠ row) : Hd w' g cap xs := h.of_block (hb.block g h.lt hg)
theorem set (h : Hd w g cap xs) (i v : Nat) (_ : i < xs.length) : Hd (w.setCell ⟨g, i, none⟩ (.int .u64 (v : Int))) g cap (xs.set i v) := by
  obtain ⟨cur, hb, h1, h2, h3, h4⟩ := h
  refine ⟨cur.setIfInBounds i (.int .u64 (v : Int)), ?_, by simpa using h1, h2, by simpa using h3, ?_⟩
  · simp [World.setCell, Array.getElem?_modify, hb]
  · simp only [List.length_set, Array.toList_setIfInBounds]
    rw [List.take_set, h4]
    simp [ints, List.map_set]
theorem setOther (h : Hd w g cap xs) {a : Addr} (ha : g ≠ a.block) (v : Value) : Hd (w.setCell a v) g cap xs := by
  obtain ⟨cur, hb, r⟩ := h
  refine ⟨cur, ?_, r⟩
  simp [World.setCell, Array.getElem?_modify, hb, Ne.symm ha]
theorem nums (h : Hd w g cap xs) (n : Nat) : Nums .u64 w (some ⟨g, 0, none⟩) (xs.take n) := by
  intro hp
  refine ⟨g, 0, rfl, h.lt, fun j x hx => ?_⟩
  rw [List.getElem?_take] at hx
  split at hx
  · have := h.cell hx
    simpa using this
  · cases hx
theorem owns (h : Hd w g cap xs) {B : Nat} (hB : B ≤ g) : w.ownsRow B 24 1 (.slice (some ⟨g, 0, none⟩) xs.length cap) xs.length (ints .u64 xs) := by
  obtain ⟨cur, hb, h1, h2, h3, h4⟩ := h
  exact ⟨by simp [ints], .inr ⟨g, cap, cur, rfl, hB, hb, h1, h2, by simpa using h3, by simpa using h4⟩⟩
theorem of_owns {v : Value} {B n : Nat} (h : w.ownsRow B 24 1 v n (ints .u64 xs)) (hv : v ≠ .slice none 0 0) : ∃ g cap, v = .slice (some ⟨g, 0, none⟩) xs.length cap ∧ B ≤ g ∧ n = xs.length ∧ Hd w g cap xs := by
  have hn : n = xs.length := by have := h.1; simp [ints] at this; omega
  subst hn
  rcases h.2 with ⟨h1, _⟩ | ⟨g, cap, cur, e, h1, h2, h3, h4, h5, h6⟩
  · exact absurd h1 hv
  · exact ⟨g, cap, e, h1, rfl, cur, h2, h3, h4, by simpa using h5, by simpa using h6⟩
end Hd

/-- A number at the head of a row of the call's own. -/
def OwnH (B : Nat) (w : World) (v : Value) (n : Nat) : Prop := ∃ g cap, v = .slice (some ⟨g, 0, none⟩) (dig B64 n).length cap ∧ B ≤ g ∧ Hd w g cap (dig B64 n)
theorem OwnH.is {B : Nat} {w : World} {v : Value} {n : Nat} (h : OwnH B w v n) : W64 w v n := by
  obtain ⟨g, cap, rfl, _, hh⟩ := h
  have := hh.nums (dig B64 n).length
  rw [List.take_length] at this
  exact ⟨_, _, rfl, hh.cap_le, this⟩
theorem OwnH.keep {B : Nat} {w w' : World} {v : Value} {n : Nat} (h : OwnH B w v n) (hb : Below w.heap.size w w') : OwnH B w' v n := by
  obtain ⟨g, cap, rfl, h1, hh⟩ := h
  exact ⟨g, cap, rfl, h1, hh.keep hb⟩
theorem OwnH.of_row {B : Nat} {w : World} {v : Value} {n : Nat} (h : OwnW B w v n) (hl : ∀ g L c, v = .slice (some ⟨g, 0, none⟩) L c → c ≤ maxLen) : OwnH B w v n := by
  obtain ⟨g, c, zs, rfl, h1, h2, h3, h4, h5, h6⟩ := h
  refine ⟨g, c, rfl, h3, _, h4.heap, h1, hl _ _ _ rfl, by simp [ints, h2], ?_⟩
  simp only [ints, ← List.map_take]
  rw [h6]

def HPost (w : World) (n : Nat) (e : Ending) (w' : World) : Prop := ∃ v, e = .returned v ∧ OwnH w.heap.size w' v n ∧ Below w.heap.size w w'

set_option maxHeartbeats 1000000 in
set_option maxRecDepth 100000 in
theorem clone_any (ad : Addr) (c L n : Nat) (w : World) (hA : Nums .u64 w (some ad) (dig B64 n)) (hL : L = (dig B64 n).length) (hl : L ≤ 1000000000) :
    Calls Try.prog 118 #[.slice (some ad) L c] w (HPost w n) := by
  have hA1 := hA.keep (below_new w (.cells #[] 24))
  have ho := own_empty w 24
  have hbA := below_new w (.cells #[] 24)
  obtain ⟨i0, hi, hz0, hz1, hz2⟩ := info_parts info24
  have hnil := fun w1 => Lib.run_eql_slice_nil (P := Try.prog) w1 88 24 (some ad) L c 0 0 Try.underlying88
  simp only [Option.isNone_some] at hnil
  have HL := Lib.hid hL
  have HA := Lib.hid hA1
  have HO := Lib.hid ho
  clear hA hA1 ho hL
  go_enter Try.func118, Try.ntmps118
  go_wp2_with (at_builtin
               refine wpList_append_own _ rfl _ _ 88 rfl w.heap.size 24 i0 (.int .u64 0) 1 8 Try.underlying88 hi hz0 hz1 hz2 rfl (by decide) _ _ _ rfl HO.out ad L _ (ints .u64 (dig B64 n)) rfl ?c1 (nums_cells HA.out) (ints_one _ _) ?c4 ?c5 (by simp) ?_)
  case c1 => rw [ints_len, HL.out]; omega
  case c4 => unfold maxLen; omega
  case c5 => omega
  intro v' w1 hown hgr hne
  have hb1 := hbA.grown hgr hbA.size (by simp [Value.ownBlock])
  go_wp2
  go_ret
  have hv : v' ≠ .slice none 0 0 := by simpa using hne
  obtain ⟨g, cap, rfl, h1, _, h2⟩ := Hd.of_owns hown hv
  exact ⟨_, rfl, ⟨g, cap, rfl, h1, h2⟩, hb1⟩
end Go.Proofs.Ytaegkhdkhgemmaa

/- scale: a row of words, multiplied in place by a word, a word added. -/
namespace Go.Proofs.Ytaegkhdkhgemmaa
open Go.RowKit Num

structure InSt (zs : List Nat) (m a k : Nat) (ys : List Nat) (c : Nat) : Prop where
  len : ys.length = zs.length
  low : Low B64 ys
  le : c < B64
  far : ∀ i, k ≤ i → ys[i]? = zs[i]?
  eq : val B64 (ys.take k) + B64 ^ k * c = val B64 (zs.take k) * m + a
theorem InSt.start {zs : List Nat} {m a : Nat} (hz : Low B64 zs) (ha : a < B64) : InSt zs m a 0 zs a := ⟨rfl, hz, ha, fun _ _ => rfl, by simp [val]⟩
theorem InSt.step {zs ys : List Nat} {m a k c x lo hi : Nat} (h : InSt zs m a k ys c) (hx : ys[k]? = some x) (hs : lo + B64 * hi = x * m + c) (hlo : lo < B64) (hhi : hi < B64) : InSt zs m a (k + 1) (ys.set k lo) hi := by
  have hk := (List.getElem?_eq_some_iff.1 hx).1
  have hkz : k < zs.length := by rw [← h.len]; exact hk
  have hzx : zs[k] = x := by
    have := h.far k (Nat.le_refl _)
    rw [hx, List.getElem?_eq_getElem hkz] at this
    injection this with this
    exact this.symm
  refine ⟨by rw [List.length_set]; exact h.len, h.low.set hlo, hhi, fun i hi => ?_, ?_⟩
  · rw [List.getElem?_set_ne (by omega)]; exact h.far i (by omega)
  · rw [val_take_succ _ _ _ (by rw [List.length_set]; exact hk), val_take_succ _ _ _ hkz, hzx]
    have e1 : (ys.set k lo)[k]'(by rw [List.length_set]; exact hk) = lo := List.getElem_set_self _
    rw [e1, List.take_set_of_le (Nat.le_refl k)]
    have := h.eq
    rw [Nat.pow_succ]
    generalize val B64 (ys.take k) = V at *
    generalize val B64 (zs.take k) = Z at *
    generalize B64 ^ k = P at *
    have e2 : P * (lo + B64 * hi) = P * (x * m + c) := by rw [hs]
    grind

theorem mulIn_ex (x m c : Nat) (hx : x < B64) (hm : m < B64) (hc : c < B64) : ∃ hi lo lo2 c2 over : Nat,
    (∀ w, Calls Try.prog 121 #[.int .u64 (x : Int), .int .u64 (m : Int)] w fun e w' => e = .returned (.tuple #[.int .u64 (hi : Int), .int .u64 (lo : Int)]) ∧ w = w') ∧
    (∀ w, (callFunc 122 #[.int .u64 (lo : Int), .int .u64 (c : Int), .int .u64 0]).run Try.prog w = .ok (.value (.tuple #[.int .u64 (lo2 : Int), .int .u64 (c2 : Int)])) w) ∧
    IntKind.u64.wrap ((hi : Int) + (c2 : Int)) = (over : Int) ∧
    lo2 + B64 * over = x * m + c ∧ lo2 < B64 ∧ over < B64 := by
  obtain ⟨hi, lo, h1, e1, l1, g1⟩ := mul64_ex x m hx hm
  obtain ⟨lo2, c2, h3, e3, l3, g3⟩ := add64_ex0 lo c l1 hc
  have e : lo2 + B64 * (hi + c2) = x * m + c := by rw [Nat.mul_add]; omega
  have hb := word_bound (v := 0) (b := B64) b64_pos hx hm hc (by rw [e]; omega)
  exact ⟨hi, lo, lo2, c2, hi + c2, h1, h3, wrap_in _ _ hb, e, l3, hb⟩

def MulInPost (xs : List Nat) (m a g cap : Nat) (w : World) (e : Ending) (w' : World) : Prop :=
  ∃ ys c, e = .returned (.int .u64 ((c : Nat) : Int)) ∧ InSt xs m a xs.length ys c ∧ Hd w' g cap ys ∧ w.grownBy w' (some g)

theorem mulIn_nil (m a : Nat) (w : World) : Calls Try.prog 100 #[.slice none 0 0, .int .u64 (m : Int), .int .u64 (a : Int)] w fun e w' => e = .returned (.int .u64 (a : Int)) ∧ w = w' := by
  go_enter Try.func100, Try.ntmps100
  go_wp2
  go_loop [2, 15] (fun q t => q = .int .u64 (a : Int) ∧ t = .int .i64 0) (fun _ _ => 0)
  case atStart => exact ⟨rfl, rfl⟩
  case round =>
    obtain ⟨rfl, rfl⟩ := hrel
    go_wp2
    go_ret
    exact ⟨rfl, rfl⟩

set_option maxHeartbeats 1000000 in
set_option maxRecDepth 100000 in
theorem mulIn_any (g cap L m a : Nat) (xs : List Nat) (w : World) (hr : Hd w g cap xs) (hz : Low B64 xs) (hL : L = xs.length) (hm : m < B64) (ha : a < B64) (hbig : L ≤ 1000000000000) :
    Calls Try.prog 100 #[.slice (some ⟨g, 0, none⟩) L cap, .int .u64 (m : Int), .int .u64 (a : Int)] w (MulInPost xs m a g cap w) := by
  have HL := Lib.hid hL
  clear hL
  go_enter Try.func100, Try.ntmps100
  go_wp2
  go_loopw [2, 15] (fun q t wr => ∃ (k c : Nat) (ys : List Nat), k ≤ L ∧ q = .int .u64 (c : Int) ∧ t = .int .i64 (k : Int) ∧ InSt xs m a k ys c ∧ Hd wr g cap ys ∧ w.grownBy wr (some g)) (fun _ t _ => L - (intOf t).toNat)
  case atStart => exact ⟨0, a, xs, Nat.zero_le _, rfl, rfl, InSt.start hz ha, hr, World.grownBy.refl w _⟩
  case round =>
    obtain ⟨k, c, ys, hk, rfl, rfl, hst, hrow, hgr⟩ := hrel
    by_cases hlt : k < L
    · have hkl : k < ys.length := by have := hst.len; have := HL.out; omega
      obtain ⟨x, hx⟩ : ∃ x, ys[k]? = some x := ⟨ys[k], List.getElem?_eq_getElem hkl⟩
      have hcv := hrow.cell hx
      have hfv := hrow.frozen k
      have hxl : x < B64 := hst.low x (List.mem_of_getElem? hx)
      obtain ⟨hi, lo, lo2, c2, over, e1, e2, e3, e6, hlo, hov⟩ := mulIn_ex x m c hxl hm hst.le
      have hst' := hst.step hx e6 hlo hov
      have hrow' := hrow.set k lo2 hkl
      have HE := Lib.hid e6
      have HX := Lib.hid hx
      have H1 := Lib.hid e1
      clear e6 hx hxl hlo hov e1 hkl
      go_wp2_with (go_at_call 121; refine (H1.out _).mono ?_; rintro e w' ⟨rfl, rfl⟩)
      go_roundw
      case rel => exact ⟨k + 1, over, _, by omega, rfl, by go_num, hst', hrow', grown_set hgr _ _⟩
      case measure => simp [intOf]; omega
    · have hkL : k = L := by omega
      subst hkL
      clear hlt
      go_wp2
      go_ret
      exact ⟨ys, c, rfl, by rw [← HL.out]; exact hst, hrow, hgr⟩
end Go.Proofs.Ytaegkhdkhgemmaa

/- nat.Parse: decimal texts to numbers. -/
namespace Go.Proofs.Ytaegkhdkhgemmaa
open Go.RowKit Num

theorem dval_append (xs ys : List Nat) : dval (xs ++ ys) = dval xs * 10 ^ ys.length + dval ys := by
  have gen : ∀ (ys : List Nat) (a : Nat), ys.foldl (fun a x => a * 10 + (x - 48)) a = a * 10 ^ ys.length + ys.foldl (fun a x => a * 10 + (x - 48)) 0 := by
    intro ys
    induction ys with
    | nil => intro a; simp
    | cons y ys ih =>
      intro a
      simp only [List.foldl_cons, List.length_cons, Nat.zero_mul, Nat.zero_add]
      rw [ih (a * 10 + (y - 48)), ih (y - 48), Nat.pow_succ]
      grind
  unfold dval
  rw [List.foldl_append, gen ys]
theorem codes_extract (s : ByteArray) (n : Nat) : codes (s.extract n s.size) = (codes s).drop n := by
  have h := Lib.extract_data s n s.size
  unfold codes
  rw [h, List.take_of_length_le (by simp [List.length_drop]), List.map_drop]

/-- Words of the call's own, or none at all. -/
def Wd (B : Nat) (w : World) (v : Value) (n : Nat) : Prop := (v = .slice none 0 0 ∧ n = 0) ∨ OwnH B w v n
theorem Wd.is {B : Nat} {w : World} {v : Value} {n : Nat} (h : Wd B w v n) : W64 w v n := by
  rcases h with ⟨rfl, rfl⟩ | h
  · exact ⟨none, 0, by rw [dig_zero]; rfl, by rw [dig_zero]; exact Nat.le_refl _, by rw [dig_zero]; exact Nums.nil⟩
  · exact h.is

/-- What the words say once they have been scaled. -/
theorem in_dig {n m a c : Nat} {ys : List Nat} (h : InSt (dig B64 n) m a (dig B64 n).length ys c) (hm : 1 ≤ m) : (c = 0 → ys = dig B64 (n * m + a)) ∧ (c ≠ 0 → ys ++ [c] = dig B64 (n * m + a)) := by
  have e := h.eq
  rw [List.take_of_length_le (Nat.le_of_eq h.len), List.take_length, val_dig b64_two] at e
  constructor
  · intro h0
    subst h0
    rw [Nat.mul_zero, Nat.add_zero] at e
    have h1 := val_lt B64 ys h.low
    have h2 : (dig B64 (n * m + a)).length ≤ ys.length := dig_len_le b64_two (by rw [← e]; exact h1)
    have h3 : (dig B64 n).length ≤ (dig B64 (n * m + a)).length := dig_len_mono (by have := Nat.mul_le_mul_left n hm; omega)
    have h4 := h.len
    exact val_inj b64_two (by omega) h.low (dig_low64 _) (by rw [e, val_dig b64_two])
  · intro h0
    refine (dig_of b64_two (h.low.append (Low.cons h.le (Low.nil _))) (.inr ⟨ys, c, rfl, h0⟩) ?_).symm
    rw [val_snoc, h.len]
    exact e

theorem len_ten64 {n K : Nat} (h : n < 10 ^ K) : (dig B64 n).length ≤ K := dig_len_le b64_two (Nat.lt_of_lt_of_le h (Nat.pow_le_pow_left (by unfold B64; omega) _))
theorem unhidden {p : Prop} (h : Hid p) : p := h.out
/-- append of one word. -/
theorem wp_more {ops : Array Oper} {rest : List Oper} {o : Oper} {a : Act} {Q : Exit → Act → World → Prop} (hgd : o.guard = none) (s x : Operand)
    (ho : o.op = .call { callee := .builtin .append, args := #[s, x], argTypes := #[88, 88] }) (B c cap : Nat) (w0 : World) (v : Value) (ys : List Nat) (hs : a.eval s = v) (h : w0.ownsRow B 24 1 v ys.length (ints .u64 ys)) (hn : ys.length ≤ 100000) (hB : B ≤ w0.heap.size)
    (hx : a.eval x = .slice (some ⟨w0.heap.size, 0, none⟩) 1 cap)
    (K : ∀ v' w2, (∃ g cap, v' = .slice (some ⟨g, 0, none⟩) (ys ++ [c]).length cap ∧ B ≤ g ∧ Hd w2 g cap (ys ++ [c])) → Below B w0 w2 → wpList Try.prog ops Q rest (a.put o.dst v') w2) : wpList Try.prog ops Q (o :: rest) a (w0.alloc (.cells #[.int .u64 (c : Int)] 24)) := by
  obtain ⟨i0, hi, hz0, hz1, hz2⟩ := info_parts info24
  refine wpList_append_own _ hgd s x 88 ho B 24 i0 (.int .u64 0) 1 8 Try.underlying88 hi hz0 hz1 hz2 rfl (by decide) v _ _ hs (h.alloc _) ⟨w0.heap.size, 0, none⟩ 1 cap [.int .u64 (c : Int)] hx rfl (cell_one_new _ _ _) (fun u hu => ?_) (by unfold maxLen; omega) (by omega) (by simp; omega) fun v' w2 hown hgr hnil => ?_
  · simp at hu; subst hu; rfl
  · have e : ints .u64 ys ++ [.int .u64 (c : Int)] = ints .u64 (ys ++ [c]) := by simp [ints]
    rw [e] at hown
    obtain ⟨g, cp, e1, hg, _, hd⟩ := Hd.of_owns hown fun e0 => by have := hnil.1 e0; omega
    exact K v' w2 ⟨g, cp, e1, hg, hd⟩ (((Below.refl B w0).alloc hB _).grown hgr (by simp; omega) fun k hk => (h.lt k hk).1)

set_option maxHeartbeats 1000000 in
set_option maxRecDepth 100000 in
theorem parse_bad (s : ByteArray) (w : World) (hl : s.size ≤ 1000000) (hbad : numTxt (codes s) = false) : Calls Try.prog 61 #[.string s] w (NatErr w 2) := by
  have h := isNumber_any s w hl
  rw [hbad] at h
  have H := Lib.hid h
  clear h hbad
  go_enter Try.func61, Try.ntmps61
  go_wp2_with (go_at_call 99; refine H.out.mono ?_; rintro e w1 ⟨rfl, rfl⟩)
  go_ret2
  exact ⟨rfl, Below.refl _ _⟩

set_option maxHeartbeats 4000000 in
set_option maxRecDepth 100000 in
theorem parse_ok (s : ByteArray) (w : World) (hl : s.size ≤ 20000) (hok : numTxt (codes s) = true) : Calls Try.prog 61 #[.string s] w (NatOk w (dval (codes s))) := by
  have h := isNumber_any s w (by omega)
  rw [hok] at h
  have hd : ∀ x ∈ codes s, 48 ≤ x ∧ x ≤ 57 := (of_decide_eq_true hok).2.1
  have hlt := fun cs (hc : ∀ x ∈ cs, x ≤ 57) => dval_lt cs hc
  have hcl := codes_len s
  have H := Lib.hid h
  have HD := Lib.hid hd
  have HLT := Lib.hid hlt
  have HCL := Lib.hid hcl
  have hdl : decide ((20000 : Int) < (s.size : Int)) = false := decide_eq_false (by omega)
  clear h hok hd hlt hcl
  go_enter Try.func61, Try.ntmps61
  go_wp2_with (fail)
  refine H.out.mono ?_
  rintro e w1 ⟨rfl, rfl⟩
  go_wp2_with (fail)
  go_loopw [0, 4] (fun t v wr => ∃ (s1 : ByteArray) (j : Nat), t = .string s1 ∧ Hid (codes s1 = (codes s).drop j ∧ j + s1.size = s.size) ∧ Wd w.heap.size wr v (dval ((codes s).take j)) ∧ Below w.heap.size w wr) (fun t _ _ => match t with | .string x => x.size | _ => 0)
  case atStart => exact ⟨s, 0, rfl, Lib.hid ⟨rfl, by omega⟩, .inl ⟨rfl, rfl⟩, Below.refl _ _⟩
  case round =>
    obtain ⟨s1, j, rfl, hs1, hv, hbl⟩ := hrel
    by_cases h0 : 0 < s1.size
    · obtain ⟨N, hN⟩ : ∃ N : Nat, min (19 : Int) (s1.size : Int) = (N : Int) := ⟨min 19 s1.size, by omega⟩
      have hN1 : N ≤ s1.size := by omega
      have hN2 : N ≤ 19 := by omega
      have hN3 : 0 < N := by omega
      have hsm : s1.size ≤ 20000 := by have := hs1.out.2; omega
      have hdd : ∀ (k : Nat) x, (codes s1)[k]? = some x → 48 ≤ x ∧ x ≤ 57 := fun k x h => HD.out x (by rw [hs1.out.1] at h; exact List.mem_of_mem_drop (List.mem_of_getElem? h))
      have hvl : ∀ k, dval ((codes s1).take k) < 10 ^ k := fun k => HLT.out _ (fun x h => by obtain ⟨i, hi⟩ := List.getElem?_of_mem h; exact (hdd i x hi).2) k
      have HDD := Lib.hid hdd
      have HVL := Lib.hid hvl
      clear hdd hvl
      go_wp2_with (fail)
      go_loop [6, 7, 23] (fun v u t => ∃ k V U : Nat, k ≤ N ∧ v = .int .u64 (V : Int) ∧ u = .int .u64 (U : Int) ∧ t = .int .i64 (k : Int) ∧ Hid (V = dval ((codes s1).take k)) ∧ Hid (U = 10 ^ k)) (fun _ _ t => N - (intOf t).toNat)
      case atStart => exact ⟨0, 0, 1, Nat.zero_le _, rfl, rfl, rfl, Lib.hid (by simp [dval]), Lib.hid rfl⟩
      case round =>
        obtain ⟨k, V, U, hk, rfl, rfl, rfl, hV, hU⟩ := hrel
        by_cases hlt : k < N
        · obtain ⟨x, hx⟩ : ∃ x, (s1[k]'(by omega)).toNat = x := ⟨_, rfl⟩
          have hc := codes_at s1 k (by omega)
          rw [hx] at hc
          have hxd := HDD.out k x hc
          obtain ⟨d, hd⟩ : ∃ d, x = 48 + d := ⟨x - 48, by omega⟩
          have hst := dval_step hc
          rw [← hV.out, show x - 48 = d by omega] at hst
          have hb := HVL.out k
          rw [← hV.out] at hb
          have hp := Nat.pow_le_pow_right (show 0 < 10 by omega) (show k ≤ 18 by omega)
          have hu : U ≤ 1000000000000000000 := by rw [hU.out]; exact hp
          have hv1 : V < 1000000000000000000 := Nat.lt_of_lt_of_le hb hp
          have hsub : (x : Int) - 48 = (d : Int) := by omega
          have hw8 : IntKind.u8.wrap (d : Int) = (d : Int) := by rw [IntKind.wrap_u8]; omega
          have hw64 : IntKind.u64.wrap (d : Int) = (d : Int) := by rw [IntKind.wrap_u64]; omega
          obtain ⟨V1, e1⟩ : ∃ V1 : Nat, V1 = 10 * V := ⟨_, rfl⟩
          obtain ⟨V2, e2⟩ : ∃ V2 : Nat, V2 = V1 + d := ⟨_, rfl⟩
          obtain ⟨U1, e3⟩ : ∃ U1 : Nat, U1 = U * 10 := ⟨_, rfl⟩
          have f1 : IntKind.u64.wrap (10 * (V : Int)) = (V1 : Int) := by rw [IntKind.wrap_u64]; omega
          have f2 : IntKind.u64.wrap ((V1 : Int) + (d : Int)) = (V2 : Int) := by rw [IntKind.wrap_u64]; omega
          have f3 : IntKind.u64.wrap ((U : Int) * 10) = (U1 : Int) := by rw [IntKind.wrap_u64]; omega
          have HST := Lib.hid hst
          have E : Hid (V2 = V * 10 + d) := Lib.hid (by omega)
          have E3 := Lib.hid e3
          clear hc hxd hd hst hb hp hu hv1 e1 e2 e3
          go_wp2_with (fail)
          go_round
          case rel => exact ⟨k + 1, V2, U1, by omega, rfl, rfl, by go_num, Lib.hid (by rw [HST.out]; exact E.out), Lib.hid (by rw [E3.out, hU.out, Nat.pow_succ])⟩
          case measure => simp [intOf]; omega
        · obtain rfl : k = N := by omega
          have hc2 := codes_extract s1 k
          have hstep : dval ((codes s).take (j + k)) = dval ((codes s).take j) * U + V := by
            rw [List.take_add, dval_append, ← hs1.out.1, hU.out, hV.out, List.length_take, codes_len, Nat.min_eq_left hN1]
          have hnew : codes (s1.extract k s1.size) = (codes s).drop (j + k) ∧ j + k + (s1.extract k s1.size).size = s.size := by
            refine ⟨by rw [hc2, hs1.out.1, List.drop_drop], ?_⟩
            have := codes_len (s1.extract k s1.size)
            rw [hc2, List.length_drop, codes_len] at this
            have := hs1.out.2
            omega
          have hsz : (s1.extract k s1.size).size < s1.size := by have := hnew.2; have := hs1.out.2; omega
          have hpU : 1 ≤ U := by rw [hU.out]; exact Nat.pow_pos (by omega)
          have hbU : U < B64 := by
            rw [hU.out]
            exact Nat.lt_of_le_of_lt (Nat.pow_le_pow_right (show 0 < 10 by omega) hN2) (by unfold B64; omega)
          have hbV : V < B64 := by
            have := HVL.out k
            rw [← hV.out] at this
            rw [hU.out] at hbU
            omega
          have hs1e : (s1.extract k s1.size).size ≤ 20000 := by omega
          have hln : (dig B64 (dval ((codes s).take j))).length ≤ 20000 := Nat.le_trans (len_ten64 (HLT.out _ (fun x h => (HD.out x h).2) j)) (by have := hs1.out.2; omega)
          generalize dval ((codes s).take j) = n at *
          obtain ⟨s2, hs2⟩ : ∃ s2, s1.extract k s1.size = s2 := ⟨_, rfl⟩
          rw [hs2] at hnew hsz
          have NEW := Lib.hid hnew
          have HSTEP := Lib.hid hstep
          clear hc2 hstep hnew hV hU HDD HVL hs1 hs1e
          rcases hv with ⟨rfl, rfl⟩ | hv
          · have h100 := fun w => mulIn_nil U V w
            have H100 := Lib.hid h100
            clear h100
            by_cases hz : V = 0
            · have hq : ((V : Int) != 0) = false := by simp [hz]
              have HZ := Lib.hid hz
              clear hz
              go_wp2_with (go_at_call 100; refine (H100.out _).mono ?_; rintro e w2 ⟨rfl, rfl⟩)
              go_roundw
              case rel => exact ⟨s2, _, rfl, NEW, .inl ⟨rfl, by rw [HSTEP.out, HZ.out]; omega⟩, hbl⟩
              case measure => exact hsz
            · have hq : ((V : Int) != 0) = true := by simp [hz]
              have hdg : [] ++ [V] = dig B64 V := (dig_of b64_two (Low.cons hbV (Low.nil _)) (.inr ⟨[], V, rfl, hz⟩) (by simp [val])).symm
              have HDG := Lib.hid hdg
              clear hz hdg
              go_wp2_with (fail)
              refine (H100.out _).mono ?_
              rintro e w2 ⟨rfl, rfl⟩
              go_wp2_with (at_builtin; refine unhidden ?_)
              refine Lib.hid ?_
              refine wp_more rfl _ _ rfl w.heap.size V _ _ (.slice none 0 0) [] rfl (World.ownsRow_nil _ _ _ _) (by simp) hbl.size rfl ?_
              rintro v3 w3 ⟨g, cp, rfl, hg, hd⟩ hb3
              rw [HDG.out] at hd ⊢
              have hwd : Wd w.heap.size w3 (.slice (some ⟨g, 0, none⟩) (dig B64 V).length cp) V := .inr ⟨g, cp, rfl, hg, hd⟩
              have hbl3 := hbl.trans hb3
              clear hd hb3
              generalize (dig B64 V).length = LL at *
              go_wp2_with (fail)
              go_roundw
              case rel => exact ⟨s2, _, rfl, NEW, by rw [HSTEP.out, Nat.zero_mul, Nat.zero_add]; exact hwd, hbl3⟩
              case measure => exact hsz
          · obtain ⟨g, cap, rfl, hg, hhd⟩ := hv
            have h100 := mulIn_any g cap _ U V _ wr hhd (dig_low64 _) rfl hbU hbV (by omega)
            have hgs : g < wr.heap.size := hhd.lt
            obtain ⟨LL, hLL⟩ : ∃ L, (dig B64 n).length = L := ⟨_, rfl⟩
            have H100 : Hid (Calls Try.prog 100 #[.slice (some ⟨g, 0, none⟩) LL cap, .int .u64 (U : Int), .int .u64 (V : Int)] wr (MulInPost (dig B64 n) U V g cap wr)) := Lib.hid (by rw [← hLL]; exact h100)
            rw [hLL]
            have HLL := Lib.hid hLL
            clear h100 hhd hLL
            go_wp2_with (fail)
            refine H100.out.mono ?_
            rintro e w2 ⟨ys, c, rfl, hin, hhd, hgr⟩
            have hbl2 : Below w.heap.size w w2 := hbl.grown hgr hbl.size (by rintro k' h; injection h with h; omega)
            have hid := in_dig hin hpU
            have hyl := hin.len
            rw [HLL.out] at hyl
            by_cases hc : c = 0
            · subst hc
              have e1 := hid.1 rfl
              have hq : (((0 : Nat) : Int) != 0) = false := rfl
              have hwd : Wd w.heap.size w2 (.slice (some ⟨g, 0, none⟩) LL cap) (n * U + V) := .inr ⟨g, cap, by rw [← e1, hyl], hg, by rw [← e1]; exact hhd⟩
              clear hid hyl hin hhd e1 hgr
              go_wp2_with (fail)
              go_roundw
              case rel => exact ⟨s2, _, rfl, NEW, by rw [HSTEP.out]; exact hwd, hbl2⟩
              case measure => exact hsz
            · have e1 := hid.2 hc
              have hq : ((c : Int) != 0) = true := by simp [hc]
              have hown := hhd.owns (B := w.heap.size) hg
              rw [hyl] at hown
              have hyl2 : ys.length ≤ 100000 := by have := HLL.out; omega
              have HYL := Lib.hid hyl
              have HY2 := Lib.hid hyl2
              have E1 := Lib.hid e1
              have HOWN : Hid (w2.ownsRow w.heap.size 24 1 (.slice (some ⟨g, 0, none⟩) LL cap) ys.length (ints .u64 ys)) := Lib.hid (by rw [hyl]; exact hown)
              clear hid hyl hin hhd e1 hc hown hgr hyl2
              go_wp2_with (at_builtin; refine unhidden ?_)
              refine Lib.hid ?_
              refine wp_more rfl _ _ rfl w.heap.size c _ _ (.slice (some ⟨g, 0, none⟩) LL cap) ys rfl HOWN.out HY2.out hbl2.size rfl ?_
              rintro v3 w3 ⟨g3, cp, rfl, hg3, hd⟩ hb3
              rw [E1.out] at hd ⊢
              have hwd : Wd w.heap.size w3 (.slice (some ⟨g3, 0, none⟩) (dig B64 (n * U + V)).length cp) (n * U + V) := .inr ⟨g3, cp, rfl, hg3, hd⟩
              have hbl3 := hbl2.trans hb3
              clear hd hb3
              generalize (dig B64 (n * U + V)).length = L3 at *
              go_wp2_with (fail)
              go_roundw
              case rel => exact ⟨s2, _, rfl, NEW, by rw [HSTEP.out]; exact hwd, hbl3⟩
              case measure => exact hsz
    · have hj : j = s.size := by have := hs1.out.2; omega
      have ht : (codes s).take j = codes s := List.take_of_length_le (by rw [HCL.out, hj]; exact Nat.le_refl _)
      rw [ht] at hv
      have hlen : (dig B64 (dval (codes s))).length ≤ 20000 := by
        have := len_ten64 (HLT.out _ (fun x h => (HD.out x h).2) j)
        rw [ht] at this
        omega
      have hnt := nat_any _ (dval (codes s)) wr hv.is (by omega)
      have HNT := Lib.hid hnt
      clear hnt hlen ht hj hv
      go_wp2_with (fail)
      refine HNT.out.mono ?_
      rintro e w2 ⟨v2, rfl, hv2, hb2⟩
      go_wp2
      go_ret2
      exact ⟨_, rfl, hv2.mono hbl.size, below_at hbl (Nat.le_refl _) hb2⟩
end Go.Proofs.Ytaegkhdkhgemmaa

/- Decimal texts: back and forth. -/
namespace Go.Proofs.Ytaegkhdkhgemmaa
open Go.RowKit Num

theorem tx_digits (n : Nat) : ∀ x ∈ tx n, 48 ≤ x ∧ x ≤ 57 := by
  intro x hx
  simp only [tx, List.mem_map, List.mem_reverse] at hx
  obtain ⟨d, hd, rfl⟩ := hx
  have := low_dig (b := 10) (by omega) n d hd
  omega
theorem tx_ne {n : Nat} (h : n ≠ 0) : tx n ≠ [] := by rw [tx_step h]; simp
theorem tx_head {n : Nat} (h : n ≠ 0) : (tx n)[0]? ≠ some 48 := by
  rcases neat_dig (b := 10) (by omega) n with h1 | ⟨ys, y, h1, hy⟩
  · have := (dig_nil_iff (b := 10) (by omega)).1 h1; omega
  · rw [tx, h1]
    simp
    omega
theorem dtxt_num (n : Nat) : numTxt (dtxt n) = true := by
  by_cases h : n = 0
  · subst h; decide
  · rw [dtxt, if_neg h]
    exact decide_eq_true ⟨tx_ne h, tx_digits n, .inr (tx_head h)⟩
theorem dval_tx : ∀ (k n : Nat), n ≤ k → dval (tx n) = n := by
  intro k
  induction k with
  | zero => intro n h; obtain rfl : n = 0 := by omega
            rw [tx_zero]; rfl
  | succ k ih =>
    intro n hn
    by_cases h : n = 0
    · subst h; rw [tx_zero]; rfl
    · rw [tx_step h, dval_append, ih (n / 10) (by omega)]
      have e : dval [48 + n % 10] = n % 10 := by simp [dval]
      rw [e, List.length_singleton, Nat.pow_one]
      omega
theorem dval_dtxt (n : Nat) : dval (dtxt n) = n := by
  by_cases h : n = 0
  · subst h; rfl
  · rw [dtxt, if_neg h, dval_tx n n (Nat.le_refl _)]
theorem tx_dval : ∀ (k : Nat) (cs : List Nat), cs.length ≤ k → (∀ x ∈ cs, 48 ≤ x ∧ x ≤ 57) → cs ≠ [] → cs[0]? ≠ some 48 → tx (dval cs) = cs ∧ dval cs ≠ 0 := by
  intro k
  induction k with
  | zero => intro cs h _ h0; exact absurd (List.eq_nil_of_length_eq_zero (by omega)) h0
  | succ k ih =>
    intro cs hl hd h0 hh
    have e := List.dropLast_concat_getLast h0
    generalize hi : cs.dropLast = ini at *
    generalize hx : cs.getLast h0 = x at *
    have hx2 := hd x (by rw [← e]; simp)
    have hv : dval cs = dval ini * 10 + (x - 48) := by
      rw [← e, dval_append]
      simp [dval]
    by_cases hn : ini = []
    · subst hn
      have hx0 : x ≠ 48 := by
        rintro rfl
        rw [← e] at hh
        simp at hh
      have hv : dval cs = x - 48 := by rw [hv]; simp [dval]
      have hne : dval cs ≠ 0 := by omega
      refine ⟨?_, hne⟩
      rw [tx_step hne, hv, Nat.div_eq_of_lt (by omega), tx_zero, Nat.mod_eq_of_lt (by omega), ← e]
      congr 2
      omega
    · have hini : ini[0]? = cs[0]? := by
        rw [← e, List.getElem?_append_left (List.length_pos_iff.2 hn)]
      obtain ⟨h1, h2⟩ := ih ini (by have := congrArg List.length e; simp at this; omega) (fun y hy => hd y (by rw [← e]; simp [hy])) hn (by rw [hini]; exact hh)
      have hne : dval cs ≠ 0 := by omega
      refine ⟨?_, hne⟩
      rw [tx_step hne, hv, show (dval ini * 10 + (x - 48)) / 10 = dval ini by omega, show (dval ini * 10 + (x - 48)) % 10 = x - 48 by omega, h1, ← e]
      congr 2
      omega
theorem dtxt_dval {cs : List Nat} (h : numTxt cs = true) : dtxt (dval cs) = cs := by
  obtain ⟨h0, hd, h1⟩ := of_decide_eq_true h
  by_cases hh : cs[0]? = some 48
  · have hl : cs.length = 1 := by rcases h1 with h1 | h1; exact h1; exact absurd hh h1
    match cs, hl with
    | [x], _ =>
      simp at hh
      subst hh
      rfl
  · obtain ⟨h2, h3⟩ := tx_dval cs.length cs (Nat.le_refl _) hd h0 hh
    rw [dtxt, if_neg h3, h2]
theorem codes_inj {a b : ByteArray} (h : codes a = codes b) : (a.toList == b.toList) = true := by
  rw [toList_codes, toList_codes] at h
  have h2 := congrArg (List.map UInt8.ofNat) h
  simp only [List.map_map] at h2
  have e : ∀ l : List UInt8, l.map (UInt8.ofNat ∘ UInt8.toNat) = l := fun l => by
    conv => rhs; rw [← List.map_id l]
    exact List.map_congr_left fun x _ => by simp
  rw [e, e] at h2
  rw [h2]
  simp
theorem extract_size (s : ByteArray) (h : 200 < s.size) : (s.extract 0 200).size = 200 := by
  rw [ByteArray.size_extract]; omega
end Go.Proofs.Ytaegkhdkhgemmaa

/- The law NatBack. -/
namespace Go.Proofs.Ytaegkhdkhgemmaa
open Go.RowKit Num

theorem text_any (a : Value) (x : Nat) (w : World) (ha : N32 w a x) (hx : (dig B32 x).length ≤ 200) : Calls Try.prog 62 #[a] w (TextPost w (dtxt x) 0) := by
  by_cases h0 : x = 0
  · rw [dtxt, if_pos h0]; exact text_zero a x w ha h0
  · rw [dtxt, if_neg h0]; exact text_ok a x w ha h0 hx
theorem dtxt_len {n : Nat} (h : (dig B32 n).length ≤ 200) : (dtxt n).length ≤ 6400 := by
  by_cases h0 : n = 0
  · rw [dtxt, if_pos h0]; simp
  · rw [dtxt, if_neg h0, tx_len]
    exact len_ten_bits (bits_of_len h)

set_option maxHeartbeats 4000000 in
set_option maxRecDepth 100000 in
theorem back_so (A : Option Addr) (c L : Nat) (xs : List Nat) (s : ByteArray) (w : World) (hA : Nums .u32 w A xs) (hlow : Low B32 xs) (hL : L = xs.length) (hc : L ≤ c) (hnil : A = none → c = 0) (hs : s.size ≤ 200) (hk : numTxt (codes s) = true) :
    Calls Try.prog 20 #[.slice A L c, .string s] w (LivesPost w) := by
  have hw1 := whole_any A c L 80 xs w hA hlow hL hc hnil (by omega)
  have l1 : (dig B32 (val B32 (xs.take 80))).length ≤ 80 := dig_len_le b32_two (Nat.lt_of_lt_of_le (val_lt _ _ (hlow.take 80)) (Nat.pow_le_pow_right b32_pos (by rw [List.length_take]; omega)))
  generalize val B32 (xs.take 80) = m at *
  have hw1 : Calls Try.prog 69 #[.slice A L c, .int .i64 80] w fun e w' => ∃ v, e = .returned v ∧ N32 w' v m ∧ Below w.heap.size w w' := hw1
  have htx := fun a w h => text_any a m w h (by omega)
  have hln := dtxt_len (n := m) (by omega)
  have hps := fun (t : ByteArray) w (h : codes t = dtxt m) => parse_ok t w (by rw [← codes_len, h]; omega) (by rw [h]; exact dtxt_num m)
  have hvd := dval_dtxt m
  have hsm := fun a b w h h' => same_n a b m w h h' (by omega)
  have hd : decide ((200 : Int) < (s.size : Int)) = false := decide_eq_false (by omega)
  have hsz := hs
  have hdg := (of_decide_eq_true hk).2.1
  have hvl := dval_lt (codes s) (fun x h => (hdg x h).2) s.size
  rw [List.take_of_length_le (by rw [codes_len]; exact Nat.le_refl _)] at hvl
  have hlv : (dig B32 (dval (codes s))).length ≤ 200 := Nat.le_trans (len_ten hvl) hsz
  have hp2 := fun w => parse_ok s w (by omega) hk
  have hdd := dtxt_dval hk
  have ht2 := fun a w h => text_any a (dval (codes s)) w h hlv
  rw [hdd] at ht2
  have HP2 := Lib.hid hp2
  have HT2 := Lib.hid ht2
  clear hdg hvl hlv hp2 ht2 hdd
  have HW1 := Lib.hid hw1
  have HTX := Lib.hid htx
  have HPS := Lib.hid hps
  have HVD := Lib.hid hvd
  have HSM := Lib.hid hsm
  clear hw1 htx hps hvd hsm hk hs hsz hln l1
  clear hA hlow hL hc hnil
  go_enter Try.func20, Try.ntmps20
  go_wp2_with (fail)
  refine (HW1.out).mono ?_
  rintro e w1 ⟨va, rfl, hva, hb1⟩
  go_wp2_with (fail)
  refine (HTX.out _ _ hva).mono ?_
  rintro e w2 ⟨t, rfl, ht, hb2⟩
  have b2 := below_at hb1 (Nat.le_refl _) hb2
  have ka := hva.keep hb2
  have HTT := Lib.hid ht
  clear hva ht
  go_wp2_with (fail)
  refine (HPS.out t _ HTT.out).mono ?_
  rintro e w3 ⟨vb, rfl, hvb, hb3⟩
  have b3 := below_at b2 (Nat.le_refl _) hb3
  have kb := hvb.is
  rw [HTT.out, HVD.out] at kb
  have ka3 := ka.keep hb3
  clear hvb ka
  go_wp2_with (fail)
  refine (HSM.out _ _ _ ka3 kb).mono ?_
  rintro e w4 ⟨rfl, hb4⟩
  have b4 := below_at b3 (Nat.le_refl _) hb4
  clear ka3 kb
  go_wp2_with (fail)
  refine (lives_any _).mono ?_
  rintro e w5 ⟨rfl, hb5⟩
  have b5 := below_at b4 (Nat.le_refl _) hb5
  go_wp2_with (fail)
  refine (HP2.out _).mono ?_
  rintro e w6 ⟨vc, rfl, hvc, hb6⟩
  have b6 := below_at b5 (Nat.le_refl _) hb6
  have kc := hvc.is
  clear hvc
  go_wp2_with (fail)
  refine (HT2.out _ _ kc).mono ?_
  rintro e w7 ⟨u, rfl, hu, hb7⟩
  have b7 := below_at b6 (Nat.le_refl _) hb7
  have hq := codes_inj hu
  clear hu
  go_wp2
  go_ret
  exact ⟨rfl, b7⟩

set_option maxHeartbeats 4000000 in
set_option maxRecDepth 100000 in
theorem back_sb (A : Option Addr) (c L : Nat) (xs : List Nat) (s : ByteArray) (w : World) (hA : Nums .u32 w A xs) (hlow : Low B32 xs) (hL : L = xs.length) (hc : L ≤ c) (hnil : A = none → c = 0) (hs : s.size ≤ 200) (hk : numTxt (codes s) = false) :
    Calls Try.prog 20 #[.slice A L c, .string s] w (LivesPost w) := by
  have hw1 := whole_any A c L 80 xs w hA hlow hL hc hnil (by omega)
  have l1 : (dig B32 (val B32 (xs.take 80))).length ≤ 80 := dig_len_le b32_two (Nat.lt_of_lt_of_le (val_lt _ _ (hlow.take 80)) (Nat.pow_le_pow_right b32_pos (by rw [List.length_take]; omega)))
  generalize val B32 (xs.take 80) = m at *
  have hw1 : Calls Try.prog 69 #[.slice A L c, .int .i64 80] w fun e w' => ∃ v, e = .returned v ∧ N32 w' v m ∧ Below w.heap.size w w' := hw1
  have htx := fun a w h => text_any a m w h (by omega)
  have hln := dtxt_len (n := m) (by omega)
  have hps := fun (t : ByteArray) w (h : codes t = dtxt m) => parse_ok t w (by rw [← codes_len, h]; omega) (by rw [h]; exact dtxt_num m)
  have hvd := dval_dtxt m
  have hsm := fun a b w h h' => same_n a b m w h h' (by omega)
  have hd : decide ((200 : Int) < (s.size : Int)) = false := decide_eq_false (by omega)
  have hsz := hs
  have hp2 := fun w => parse_bad s w (by omega) hk
  have HP2 := Lib.hid hp2
  clear hp2
  have HW1 := Lib.hid hw1
  have HTX := Lib.hid htx
  have HPS := Lib.hid hps
  have HVD := Lib.hid hvd
  have HSM := Lib.hid hsm
  clear hw1 htx hps hvd hsm hk hs hsz hln l1
  clear hA hlow hL hc hnil
  go_enter Try.func20, Try.ntmps20
  go_wp2_with (fail)
  refine (HW1.out).mono ?_
  rintro e w1 ⟨va, rfl, hva, hb1⟩
  go_wp2_with (fail)
  refine (HTX.out _ _ hva).mono ?_
  rintro e w2 ⟨t, rfl, ht, hb2⟩
  have b2 := below_at hb1 (Nat.le_refl _) hb2
  have ka := hva.keep hb2
  have HTT := Lib.hid ht
  clear hva ht
  go_wp2_with (fail)
  refine (HPS.out t _ HTT.out).mono ?_
  rintro e w3 ⟨vb, rfl, hvb, hb3⟩
  have b3 := below_at b2 (Nat.le_refl _) hb3
  have kb := hvb.is
  rw [HTT.out, HVD.out] at kb
  have ka3 := ka.keep hb3
  clear hvb ka
  go_wp2_with (fail)
  refine (HSM.out _ _ _ ka3 kb).mono ?_
  rintro e w4 ⟨rfl, hb4⟩
  have b4 := below_at b3 (Nat.le_refl _) hb4
  clear ka3 kb
  go_wp2_with (fail)
  refine (lives_any _).mono ?_
  rintro e w5 ⟨rfl, hb5⟩
  have b5 := below_at b4 (Nat.le_refl _) hb5
  go_wp2_with (fail)
  refine (HP2.out _).mono ?_
  rintro e w6 ⟨rfl, hb6⟩
  have b6 := below_at b5 (Nat.le_refl _) hb6
  go_wp2
  go_ret
  exact ⟨rfl, b6⟩

set_option maxHeartbeats 4000000 in
set_option maxRecDepth 100000 in
theorem back_bo (A : Option Addr) (c L : Nat) (xs : List Nat) (s : ByteArray) (w : World) (hA : Nums .u32 w A xs) (hlow : Low B32 xs) (hL : L = xs.length) (hc : L ≤ c) (hnil : A = none → c = 0) (hs : 200 < s.size) (hk : numTxt (codes (s.extract 0 200)) = true) :
    Calls Try.prog 20 #[.slice A L c, .string s] w (LivesPost w) := by
  have hw1 := whole_any A c L 80 xs w hA hlow hL hc hnil (by omega)
  have l1 : (dig B32 (val B32 (xs.take 80))).length ≤ 80 := dig_len_le b32_two (Nat.lt_of_lt_of_le (val_lt _ _ (hlow.take 80)) (Nat.pow_le_pow_right b32_pos (by rw [List.length_take]; omega)))
  generalize val B32 (xs.take 80) = m at *
  have hw1 : Calls Try.prog 69 #[.slice A L c, .int .i64 80] w fun e w' => ∃ v, e = .returned v ∧ N32 w' v m ∧ Below w.heap.size w w' := hw1
  have htx := fun a w h => text_any a m w h (by omega)
  have hln := dtxt_len (n := m) (by omega)
  have hps := fun (t : ByteArray) w (h : codes t = dtxt m) => parse_ok t w (by rw [← codes_len, h]; omega) (by rw [h]; exact dtxt_num m)
  have hvd := dval_dtxt m
  have hsm := fun a b w h h' => same_n a b m w h h' (by omega)
  have hd : decide ((200 : Int) < (s.size : Int)) = true := decide_eq_true (by omega)
  have hsz := extract_size s hs
  have hle : (200 : Int) ≤ (s.size : Int) := by omega
  have hle2 : 200 ≤ s.size := by omega
  obtain ⟨s2, hs2⟩ : ∃ s2, s.extract 0 200 = s2 := ⟨_, rfl⟩
  rw [hs2] at hsz hk
  have hsz : s2.size ≤ 200 := by omega
  have hdg := (of_decide_eq_true hk).2.1
  have hvl := dval_lt (codes s2) (fun x h => (hdg x h).2) s2.size
  rw [List.take_of_length_le (by rw [codes_len]; exact Nat.le_refl _)] at hvl
  have hlv : (dig B32 (dval (codes s2))).length ≤ 200 := Nat.le_trans (len_ten hvl) hsz
  have hp2 := fun w => parse_ok s2 w (by omega) hk
  have hdd := dtxt_dval hk
  have ht2 := fun a w h => text_any a (dval (codes s2)) w h hlv
  rw [hdd] at ht2
  have HP2 := Lib.hid hp2
  have HT2 := Lib.hid ht2
  clear hdg hvl hlv hp2 ht2 hdd
  have HW1 := Lib.hid hw1
  have HTX := Lib.hid htx
  have HPS := Lib.hid hps
  have HVD := Lib.hid hvd
  have HSM := Lib.hid hsm
  clear hw1 htx hps hvd hsm hk hs hsz hln l1
  clear hA hlow hL hc hnil
  go_enter Try.func20, Try.ntmps20
  go_wp2_with (fail)
  refine (HW1.out).mono ?_
  rintro e w1 ⟨va, rfl, hva, hb1⟩
  go_wp2_with (fail)
  refine (HTX.out _ _ hva).mono ?_
  rintro e w2 ⟨t, rfl, ht, hb2⟩
  have b2 := below_at hb1 (Nat.le_refl _) hb2
  have ka := hva.keep hb2
  have HTT := Lib.hid ht
  clear hva ht
  go_wp2_with (fail)
  refine (HPS.out t _ HTT.out).mono ?_
  rintro e w3 ⟨vb, rfl, hvb, hb3⟩
  have b3 := below_at b2 (Nat.le_refl _) hb3
  have kb := hvb.is
  rw [HTT.out, HVD.out] at kb
  have ka3 := ka.keep hb3
  clear hvb ka
  go_wp2_with (fail)
  refine (HSM.out _ _ _ ka3 kb).mono ?_
  rintro e w4 ⟨rfl, hb4⟩
  have b4 := below_at b3 (Nat.le_refl _) hb4
  clear ka3 kb
  go_wp2_with (fail)
  refine (lives_any _).mono ?_
  rintro e w5 ⟨rfl, hb5⟩
  have b5 := below_at b4 (Nat.le_refl _) hb5
  go_wp2_with (fail)
  refine (HP2.out _).mono ?_
  rintro e w6 ⟨vc, rfl, hvc, hb6⟩
  have b6 := below_at b5 (Nat.le_refl _) hb6
  have kc := hvc.is
  clear hvc
  go_wp2_with (fail)
  refine (HT2.out _ _ kc).mono ?_
  rintro e w7 ⟨u, rfl, hu, hb7⟩
  have b7 := below_at b6 (Nat.le_refl _) hb7
  have hq := codes_inj hu
  clear hu
  go_wp2
  go_ret
  exact ⟨rfl, b7⟩

set_option maxHeartbeats 4000000 in
set_option maxRecDepth 100000 in
theorem back_bb (A : Option Addr) (c L : Nat) (xs : List Nat) (s : ByteArray) (w : World) (hA : Nums .u32 w A xs) (hlow : Low B32 xs) (hL : L = xs.length) (hc : L ≤ c) (hnil : A = none → c = 0) (hs : 200 < s.size) (hk : numTxt (codes (s.extract 0 200)) = false) :
    Calls Try.prog 20 #[.slice A L c, .string s] w (LivesPost w) := by
  have hw1 := whole_any A c L 80 xs w hA hlow hL hc hnil (by omega)
  have l1 : (dig B32 (val B32 (xs.take 80))).length ≤ 80 := dig_len_le b32_two (Nat.lt_of_lt_of_le (val_lt _ _ (hlow.take 80)) (Nat.pow_le_pow_right b32_pos (by rw [List.length_take]; omega)))
  generalize val B32 (xs.take 80) = m at *
  have hw1 : Calls Try.prog 69 #[.slice A L c, .int .i64 80] w fun e w' => ∃ v, e = .returned v ∧ N32 w' v m ∧ Below w.heap.size w w' := hw1
  have htx := fun a w h => text_any a m w h (by omega)
  have hln := dtxt_len (n := m) (by omega)
  have hps := fun (t : ByteArray) w (h : codes t = dtxt m) => parse_ok t w (by rw [← codes_len, h]; omega) (by rw [h]; exact dtxt_num m)
  have hvd := dval_dtxt m
  have hsm := fun a b w h h' => same_n a b m w h h' (by omega)
  have hd : decide ((200 : Int) < (s.size : Int)) = true := decide_eq_true (by omega)
  have hsz := extract_size s hs
  have hle : (200 : Int) ≤ (s.size : Int) := by omega
  have hle2 : 200 ≤ s.size := by omega
  obtain ⟨s2, hs2⟩ : ∃ s2, s.extract 0 200 = s2 := ⟨_, rfl⟩
  rw [hs2] at hsz hk
  have hsz : s2.size ≤ 200 := by omega
  have hp2 := fun w => parse_bad s2 w (by omega) hk
  have HP2 := Lib.hid hp2
  clear hp2
  have HW1 := Lib.hid hw1
  have HTX := Lib.hid htx
  have HPS := Lib.hid hps
  have HVD := Lib.hid hvd
  have HSM := Lib.hid hsm
  clear hw1 htx hps hvd hsm hk hs hsz hln l1
  clear hA hlow hL hc hnil
  go_enter Try.func20, Try.ntmps20
  go_wp2_with (fail)
  refine (HW1.out).mono ?_
  rintro e w1 ⟨va, rfl, hva, hb1⟩
  go_wp2_with (fail)
  refine (HTX.out _ _ hva).mono ?_
  rintro e w2 ⟨t, rfl, ht, hb2⟩
  have b2 := below_at hb1 (Nat.le_refl _) hb2
  have ka := hva.keep hb2
  have HTT := Lib.hid ht
  clear hva ht
  go_wp2_with (fail)
  refine (HPS.out t _ HTT.out).mono ?_
  rintro e w3 ⟨vb, rfl, hvb, hb3⟩
  have b3 := below_at b2 (Nat.le_refl _) hb3
  have kb := hvb.is
  rw [HTT.out, HVD.out] at kb
  have ka3 := ka.keep hb3
  clear hvb ka
  go_wp2_with (fail)
  refine (HSM.out _ _ _ ka3 kb).mono ?_
  rintro e w4 ⟨rfl, hb4⟩
  have b4 := below_at b3 (Nat.le_refl _) hb4
  clear ka3 kb
  go_wp2_with (fail)
  refine (lives_any _).mono ?_
  rintro e w5 ⟨rfl, hb5⟩
  have b5 := below_at b4 (Nat.le_refl _) hb5
  go_wp2_with (fail)
  refine (HP2.out _).mono ?_
  rintro e w6 ⟨rfl, hb6⟩
  have b6 := below_at b5 (Nat.le_refl _) hb6
  go_wp2
  go_ret
  exact ⟨rfl, b6⟩

theorem back_walk (A : Option Addr) (c L : Nat) (xs : List Nat) (s : ByteArray) (w : World) (hA : Nums .u32 w A xs) (hlow : Low B32 xs) (hL : L = xs.length) (hc : L ≤ c) (hnil : A = none → c = 0) :
    Calls Try.prog 20 #[.slice A L c, .string s] w (LivesPost w) := by
  rcases Nat.lt_or_ge 200 s.size with h | h
  · cases hk : numTxt (codes (s.extract 0 200)) with
    | true => exact back_bo A c L xs s w hA hlow hL hc hnil h hk
    | false => exact back_bb A c L xs s w hA hlow hL hc hnil h hk
  · cases hk : numTxt (codes s) with
    | true => exact back_so A c L xs s w hA hlow hL hc hnil h hk
    | false => exact back_sb A c L xs s w hA hlow hL hc hnil h hk
end Go.Proofs.Ytaegkhdkhgemmaa

/- The law NatTexts. -/
namespace Go.Proofs.Ytaegkhdkhgemmaa
open Go.RowKit Num

theorem extract_size3 (s : ByteArray) (h : 300 < s.size) : (s.extract 0 300).size = 300 := by
  rw [ByteArray.size_extract]; omega
theorem empty_of {t : ByteArray} (h : codes t = []) : t.toList.isEmpty = true := by
  rw [toList_empty, ← codes_len, h]; rfl

set_option maxHeartbeats 4000000 in
set_option maxRecDepth 100000 in
theorem texts_stg (A : Option Addr) (c L : Nat) (xs : List Nat) (s : ByteArray) (w : World) (hA : Nums .u32 w A xs) (hlow : Low B32 xs) (hL : L = xs.length) (hc : L ≤ c) (hnil : A = none → c = 0) (hs : s.size ≤ 300) (hk : numTxt (codes s) = true) (hg : chk (xs.take 24) = 0) :
    Calls Try.prog 12 #[.string s, .slice A L c] w (LivesPost w) := by
  have hcut : Calls Try.prog 26 #[.slice A L c, .int .i64 24] w (LsPost w (xs.take 24)) := cut_any A c L 24 xs w hA hL hc hnil (by omega)
  have hl1 : (xs.take 24).length ≤ 24 := by rw [List.length_take]; omega
  have hlow1 := hlow.take 24
  generalize xs.take 24 = us at *
  have hdu := chk_zero hlow1 hg
  generalize val B32 us = m at *
  subst hdu
  have htx := fun a w (h : Limbs w a (dig B32 m)) => text_any a m w h.is (by omega)
  have hrt := fun a w (h : Limbs w a (dig B32 m)) => refText_any a m w h.is (by omega) (Nat.le_trans (len_ten_bits (bits_of_len hl1)) (by omega))
  have hck := fun a w h => refCheck_l a (dig B32 m) w h
  rw [hg] at hck
  have hlu : ∀ B w' a, OwnLs B w' a (dig B32 m) → Limbs w' a (dig B32 m) := fun B w' a h => h.limbs (by omega)
  have HRT := Lib.hid hrt
  clear hrt
  have hd : decide ((300 : Int) < (s.size : Int)) = false := decide_eq_false (by omega)
  have hsz := hs
  have hit := fun w => isText_any s w (by omega)
  rw [hk] at hit
  have hdg := (of_decide_eq_true hk).2.1
  have hvl := dval_lt (codes s) (fun x h => (hdg x h).2) s.size
  rw [List.take_of_length_le (by rw [codes_len]; exact Nat.le_refl _)] at hvl
  have hlv : (dig B32 (dval (codes s))).length ≤ 300 := Nat.le_trans (len_ten hvl) hsz
  have hp2 := fun w => parse_ok s w (by omega) hk
  have hrp := fun w => refParse_any s w (by omega) hdg
  generalize dval (codes s) = p at *
  have his := fun a b w (h : N32 w a p) (k : N32 w b p) => is_ok a b p w h (Limbs.num k (by omega)) (by omega)
  have HP2 := Lib.hid hp2
  have HRP := Lib.hid hrp
  have HIS := Lib.hid his
  clear hdg hvl hlv hp2 hrp his
  have HCUT := Lib.hid hcut
  have HTX := Lib.hid htx
  have HCK := Lib.hid hck
  have HLU := Lib.hid hlu
  have HIT := Lib.hid hit
  clear hcut htx hck hlu hit hk hs hsz hl1 hlow1 hg
  clear hA hlow hL hc hnil
  go_enter Try.func12, Try.ntmps12
  go_wp2_with (fail)
  refine (HCUT.out).mono ?_
  rintro e w1 ⟨va, rfl, hva, hb1⟩
  have ka := HLU.out _ _ _ hva
  clear hva
  go_wp2_with (fail)
  refine (HP2.out _).mono ?_
  rintro e w2 ⟨vn, rfl, hvn, hb2⟩
  have kn := hvn.is
  clear hvn
  have b2 := below_at hb1 (Nat.le_refl _) hb2
  have ka2 := ka.keep hb2
  clear ka
  go_wp2_with (fail)
  refine (HTX.out _ _ ka2).mono ?_
  rintro e w3 ⟨tt, rfl, ht, hb3⟩
  have b3 := below_at b2 (Nat.le_refl _) hb3
  have ka3 := ka2.keep hb3
  clear ka2
  have kn3 := kn.keep hb3
  clear kn
  have HT := Lib.hid ht
  clear ht
  go_wp2_with (fail)
  refine (HCK.out _ _ ka3).mono ?_
  rintro e w4 ⟨rfl, rfl⟩
  go_wp2_with (fail)
  refine (lives_any _).mono ?_
  rintro e w5 ⟨rfl, hb5⟩
  have b5 := below_at b3 (Nat.le_refl _) hb5
  have ka5 := ka3.keep hb5
  clear ka3
  have kn5 := kn3.keep hb5
  clear kn3
  go_wp2_with (fail)
  refine (HRT.out _ _ ka5).mono ?_
  rintro e w6 ⟨tr, rfl, htr, hb6⟩
  have b6 := below_at b5 (Nat.le_refl _) hb6
  have hteq := codes_inj (HT.out.trans htr.symm)
  clear htr ka5
  have kn6 := kn5.keep hb6
  clear kn5
  go_wp2_with (fail)
  refine (HIT.out _).mono ?_
  rintro e w7 ⟨rfl, rfl⟩
  go_wp2_with (fail)
  refine (HRP.out _).mono ?_
  rintro e w8 ⟨vp, rfl, hvp, hb8⟩
  have b8 := below_at b6 (Nat.le_refl _) hb8
  have kn8 := kn6.keep hb8
  clear kn6
  go_wp2_with (fail)
  refine (HIS.out _ _ _ kn8 hvp).mono ?_
  rintro e w9 ⟨rfl, hb9⟩
  have b9 := below_at b8 (Nat.le_refl _) hb9
  go_wp2
  go_ret
  exact ⟨rfl, b9⟩

set_option maxHeartbeats 4000000 in
set_option maxRecDepth 100000 in
theorem texts_stx (A : Option Addr) (c L : Nat) (xs : List Nat) (s : ByteArray) (w : World) (hA : Nums .u32 w A xs) (hlow : Low B32 xs) (hL : L = xs.length) (hc : L ≤ c) (hnil : A = none → c = 0) (hs : s.size ≤ 300) (hk : numTxt (codes s) = true) (hg : chk (xs.take 24) ≠ 0) :
    Calls Try.prog 12 #[.string s, .slice A L c] w (LivesPost w) := by
  have hcut : Calls Try.prog 26 #[.slice A L c, .int .i64 24] w (LsPost w (xs.take 24)) := cut_any A c L 24 xs w hA hL hc hnil (by omega)
  have hl1 : (xs.take 24).length ≤ 24 := by rw [List.length_take]; omega
  have hlow1 := hlow.take 24
  generalize xs.take 24 = us at *
  have htx := fun a w h => text_bad a us w h hg
  have hck := fun a w h => refCheck_l a us w h
  have hlu : ∀ B w' a, OwnLs B w' a us → Limbs w' a us := fun B w' a h => h.limbs (by omega)
  generalize chk us = r at *
  have hr1 : (r != 0) = true := by simp [hg]
  have hr0 : (r == 0) = false := by simp [hg]
  have hr2 : (r != r) = false := by simp
  have hd : decide ((300 : Int) < (s.size : Int)) = false := decide_eq_false (by omega)
  have hsz := hs
  have hit := fun w => isText_any s w (by omega)
  rw [hk] at hit
  have hdg := (of_decide_eq_true hk).2.1
  have hvl := dval_lt (codes s) (fun x h => (hdg x h).2) s.size
  rw [List.take_of_length_le (by rw [codes_len]; exact Nat.le_refl _)] at hvl
  have hlv : (dig B32 (dval (codes s))).length ≤ 300 := Nat.le_trans (len_ten hvl) hsz
  have hp2 := fun w => parse_ok s w (by omega) hk
  have hrp := fun w => refParse_any s w (by omega) hdg
  generalize dval (codes s) = p at *
  have his := fun a b w (h : N32 w a p) (k : N32 w b p) => is_ok a b p w h (Limbs.num k (by omega)) (by omega)
  have HP2 := Lib.hid hp2
  have HRP := Lib.hid hrp
  have HIS := Lib.hid his
  clear hdg hvl hlv hp2 hrp his
  have HCUT := Lib.hid hcut
  have HTX := Lib.hid htx
  have HCK := Lib.hid hck
  have HLU := Lib.hid hlu
  have HIT := Lib.hid hit
  clear hcut htx hck hlu hit hk hs hsz hl1 hlow1 hg
  clear hA hlow hL hc hnil
  go_enter Try.func12, Try.ntmps12
  go_wp2_with (fail)
  refine (HCUT.out).mono ?_
  rintro e w1 ⟨va, rfl, hva, hb1⟩
  have ka := HLU.out _ _ _ hva
  clear hva
  go_wp2_with (fail)
  refine (HP2.out _).mono ?_
  rintro e w2 ⟨vn, rfl, hvn, hb2⟩
  have kn := hvn.is
  clear hvn
  have b2 := below_at hb1 (Nat.le_refl _) hb2
  have ka2 := ka.keep hb2
  clear ka
  go_wp2_with (fail)
  refine (HTX.out _ _ ka2).mono ?_
  rintro e w3 ⟨tt, rfl, ht, hb3⟩
  have b3 := below_at b2 (Nat.le_refl _) hb3
  have ka3 := ka2.keep hb3
  clear ka2
  have kn3 := kn.keep hb3
  clear kn
  have hte := empty_of ht
  clear ht
  go_wp2_with (fail)
  refine (HCK.out _ _ ka3).mono ?_
  rintro e w4 ⟨rfl, rfl⟩
  go_wp2_with (fail)
  refine (lives_any _).mono ?_
  rintro e w5 ⟨rfl, hb5⟩
  have b5 := below_at b3 (Nat.le_refl _) hb5
  have ka5 := ka3.keep hb5
  clear ka3
  have kn5 := kn3.keep hb5
  clear kn3
  obtain ⟨w6, hw6⟩ : ∃ w6, w5 = w6 := ⟨_, rfl⟩
  subst hw6
  have b6 := b5
  clear ka5
  have kn6 := kn5
  clear kn5
  go_wp2_with (fail)
  refine (HIT.out _).mono ?_
  rintro e w7 ⟨rfl, rfl⟩
  go_wp2_with (fail)
  refine (HRP.out _).mono ?_
  rintro e w8 ⟨vp, rfl, hvp, hb8⟩
  have b8 := below_at b6 (Nat.le_refl _) hb8
  have kn8 := kn6.keep hb8
  clear kn6
  go_wp2_with (fail)
  refine (HIS.out _ _ _ kn8 hvp).mono ?_
  rintro e w9 ⟨rfl, hb9⟩
  have b9 := below_at b8 (Nat.le_refl _) hb9
  go_wp2
  go_ret
  exact ⟨rfl, b9⟩

set_option maxHeartbeats 4000000 in
set_option maxRecDepth 100000 in
theorem texts_sfg (A : Option Addr) (c L : Nat) (xs : List Nat) (s : ByteArray) (w : World) (hA : Nums .u32 w A xs) (hlow : Low B32 xs) (hL : L = xs.length) (hc : L ≤ c) (hnil : A = none → c = 0) (hs : s.size ≤ 300) (hk : numTxt (codes s) = false) (hg : chk (xs.take 24) = 0) :
    Calls Try.prog 12 #[.string s, .slice A L c] w (LivesPost w) := by
  have hcut : Calls Try.prog 26 #[.slice A L c, .int .i64 24] w (LsPost w (xs.take 24)) := cut_any A c L 24 xs w hA hL hc hnil (by omega)
  have hl1 : (xs.take 24).length ≤ 24 := by rw [List.length_take]; omega
  have hlow1 := hlow.take 24
  generalize xs.take 24 = us at *
  have hdu := chk_zero hlow1 hg
  generalize val B32 us = m at *
  subst hdu
  have htx := fun a w (h : Limbs w a (dig B32 m)) => text_any a m w h.is (by omega)
  have hrt := fun a w (h : Limbs w a (dig B32 m)) => refText_any a m w h.is (by omega) (Nat.le_trans (len_ten_bits (bits_of_len hl1)) (by omega))
  have hck := fun a w h => refCheck_l a (dig B32 m) w h
  rw [hg] at hck
  have hlu : ∀ B w' a, OwnLs B w' a (dig B32 m) → Limbs w' a (dig B32 m) := fun B w' a h => h.limbs (by omega)
  have HRT := Lib.hid hrt
  clear hrt
  have hd : decide ((300 : Int) < (s.size : Int)) = false := decide_eq_false (by omega)
  have hsz := hs
  have hit := fun w => isText_any s w (by omega)
  rw [hk] at hit
  have hp2 := fun w => parse_bad s w (by omega) hk
  have his := fun w => is_err (.slice none 0 0) 2 w (by decide)
  have HP2 := Lib.hid hp2
  have HIS := Lib.hid his
  clear hp2 his
  have HCUT := Lib.hid hcut
  have HTX := Lib.hid htx
  have HCK := Lib.hid hck
  have HLU := Lib.hid hlu
  have HIT := Lib.hid hit
  clear hcut htx hck hlu hit hk hs hsz hl1 hlow1 hg
  clear hA hlow hL hc hnil
  go_enter Try.func12, Try.ntmps12
  go_wp2_with (fail)
  refine (HCUT.out).mono ?_
  rintro e w1 ⟨va, rfl, hva, hb1⟩
  have ka := HLU.out _ _ _ hva
  clear hva
  go_wp2_with (fail)
  refine (HP2.out _).mono ?_
  rintro e w2 ⟨rfl, hb2⟩
  have b2 := below_at hb1 (Nat.le_refl _) hb2
  have ka2 := ka.keep hb2
  clear ka
  go_wp2_with (fail)
  refine (HTX.out _ _ ka2).mono ?_
  rintro e w3 ⟨tt, rfl, ht, hb3⟩
  have b3 := below_at b2 (Nat.le_refl _) hb3
  have ka3 := ka2.keep hb3
  clear ka2
  have HT := Lib.hid ht
  clear ht
  go_wp2_with (fail)
  refine (HCK.out _ _ ka3).mono ?_
  rintro e w4 ⟨rfl, rfl⟩
  go_wp2_with (fail)
  refine (lives_any _).mono ?_
  rintro e w5 ⟨rfl, hb5⟩
  have b5 := below_at b3 (Nat.le_refl _) hb5
  have ka5 := ka3.keep hb5
  clear ka3
  go_wp2_with (fail)
  refine (HRT.out _ _ ka5).mono ?_
  rintro e w6 ⟨tr, rfl, htr, hb6⟩
  have b6 := below_at b5 (Nat.le_refl _) hb6
  have hteq := codes_inj (HT.out.trans htr.symm)
  clear htr ka5
  go_wp2_with (fail)
  refine (HIT.out _).mono ?_
  rintro e w7 ⟨rfl, rfl⟩
  go_wp2_with (fail)
  refine (HIS.out _).mono ?_
  rintro e w9 ⟨rfl, hb9⟩
  have b9 := below_at b6 (Nat.le_refl _) hb9
  go_wp2
  go_ret
  exact ⟨rfl, b9⟩

set_option maxHeartbeats 4000000 in
set_option maxRecDepth 100000 in
theorem texts_sfx (A : Option Addr) (c L : Nat) (xs : List Nat) (s : ByteArray) (w : World) (hA : Nums .u32 w A xs) (hlow : Low B32 xs) (hL : L = xs.length) (hc : L ≤ c) (hnil : A = none → c = 0) (hs : s.size ≤ 300) (hk : numTxt (codes s) = false) (hg : chk (xs.take 24) ≠ 0) :
    Calls Try.prog 12 #[.string s, .slice A L c] w (LivesPost w) := by
  have hcut : Calls Try.prog 26 #[.slice A L c, .int .i64 24] w (LsPost w (xs.take 24)) := cut_any A c L 24 xs w hA hL hc hnil (by omega)
  have hl1 : (xs.take 24).length ≤ 24 := by rw [List.length_take]; omega
  have hlow1 := hlow.take 24
  generalize xs.take 24 = us at *
  have htx := fun a w h => text_bad a us w h hg
  have hck := fun a w h => refCheck_l a us w h
  have hlu : ∀ B w' a, OwnLs B w' a us → Limbs w' a us := fun B w' a h => h.limbs (by omega)
  generalize chk us = r at *
  have hr1 : (r != 0) = true := by simp [hg]
  have hr0 : (r == 0) = false := by simp [hg]
  have hr2 : (r != r) = false := by simp
  have hd : decide ((300 : Int) < (s.size : Int)) = false := decide_eq_false (by omega)
  have hsz := hs
  have hit := fun w => isText_any s w (by omega)
  rw [hk] at hit
  have hp2 := fun w => parse_bad s w (by omega) hk
  have his := fun w => is_err (.slice none 0 0) 2 w (by decide)
  have HP2 := Lib.hid hp2
  have HIS := Lib.hid his
  clear hp2 his
  have HCUT := Lib.hid hcut
  have HTX := Lib.hid htx
  have HCK := Lib.hid hck
  have HLU := Lib.hid hlu
  have HIT := Lib.hid hit
  clear hcut htx hck hlu hit hk hs hsz hl1 hlow1 hg
  clear hA hlow hL hc hnil
  go_enter Try.func12, Try.ntmps12
  go_wp2_with (fail)
  refine (HCUT.out).mono ?_
  rintro e w1 ⟨va, rfl, hva, hb1⟩
  have ka := HLU.out _ _ _ hva
  clear hva
  go_wp2_with (fail)
  refine (HP2.out _).mono ?_
  rintro e w2 ⟨rfl, hb2⟩
  have b2 := below_at hb1 (Nat.le_refl _) hb2
  have ka2 := ka.keep hb2
  clear ka
  go_wp2_with (fail)
  refine (HTX.out _ _ ka2).mono ?_
  rintro e w3 ⟨tt, rfl, ht, hb3⟩
  have b3 := below_at b2 (Nat.le_refl _) hb3
  have ka3 := ka2.keep hb3
  clear ka2
  have hte := empty_of ht
  clear ht
  go_wp2_with (fail)
  refine (HCK.out _ _ ka3).mono ?_
  rintro e w4 ⟨rfl, rfl⟩
  go_wp2_with (fail)
  refine (lives_any _).mono ?_
  rintro e w5 ⟨rfl, hb5⟩
  have b5 := below_at b3 (Nat.le_refl _) hb5
  have ka5 := ka3.keep hb5
  clear ka3
  obtain ⟨w6, hw6⟩ : ∃ w6, w5 = w6 := ⟨_, rfl⟩
  subst hw6
  have b6 := b5
  clear ka5
  go_wp2_with (fail)
  refine (HIT.out _).mono ?_
  rintro e w7 ⟨rfl, rfl⟩
  go_wp2_with (fail)
  refine (HIS.out _).mono ?_
  rintro e w9 ⟨rfl, hb9⟩
  have b9 := below_at b6 (Nat.le_refl _) hb9
  go_wp2
  go_ret
  exact ⟨rfl, b9⟩

set_option maxHeartbeats 4000000 in
set_option maxRecDepth 100000 in
theorem texts_btg (A : Option Addr) (c L : Nat) (xs : List Nat) (s : ByteArray) (w : World) (hA : Nums .u32 w A xs) (hlow : Low B32 xs) (hL : L = xs.length) (hc : L ≤ c) (hnil : A = none → c = 0) (hs : 300 < s.size) (hk : numTxt (codes (s.extract 0 300)) = true) (hg : chk (xs.take 24) = 0) :
    Calls Try.prog 12 #[.string s, .slice A L c] w (LivesPost w) := by
  have hcut : Calls Try.prog 26 #[.slice A L c, .int .i64 24] w (LsPost w (xs.take 24)) := cut_any A c L 24 xs w hA hL hc hnil (by omega)
  have hl1 : (xs.take 24).length ≤ 24 := by rw [List.length_take]; omega
  have hlow1 := hlow.take 24
  generalize xs.take 24 = us at *
  have hdu := chk_zero hlow1 hg
  generalize val B32 us = m at *
  subst hdu
  have htx := fun a w (h : Limbs w a (dig B32 m)) => text_any a m w h.is (by omega)
  have hrt := fun a w (h : Limbs w a (dig B32 m)) => refText_any a m w h.is (by omega) (Nat.le_trans (len_ten_bits (bits_of_len hl1)) (by omega))
  have hck := fun a w h => refCheck_l a (dig B32 m) w h
  rw [hg] at hck
  have hlu : ∀ B w' a, OwnLs B w' a (dig B32 m) → Limbs w' a (dig B32 m) := fun B w' a h => h.limbs (by omega)
  have HRT := Lib.hid hrt
  clear hrt
  have hd : decide ((300 : Int) < (s.size : Int)) = true := decide_eq_true (by omega)
  have hsz := extract_size3 s hs
  have hle : (300 : Int) ≤ (s.size : Int) := by omega
  have hle2 : 300 ≤ s.size := by omega
  obtain ⟨s2, hs2⟩ : ∃ s2, s.extract 0 300 = s2 := ⟨_, rfl⟩
  rw [hs2] at hsz hk
  have hsz : s2.size ≤ 300 := by omega
  have hit := fun w => isText_any s2 w (by omega)
  rw [hk] at hit
  have hdg := (of_decide_eq_true hk).2.1
  have hvl := dval_lt (codes s2) (fun x h => (hdg x h).2) s2.size
  rw [List.take_of_length_le (by rw [codes_len]; exact Nat.le_refl _)] at hvl
  have hlv : (dig B32 (dval (codes s2))).length ≤ 300 := Nat.le_trans (len_ten hvl) hsz
  have hp2 := fun w => parse_ok s2 w (by omega) hk
  have hrp := fun w => refParse_any s2 w (by omega) hdg
  generalize dval (codes s2) = p at *
  have his := fun a b w (h : N32 w a p) (k : N32 w b p) => is_ok a b p w h (Limbs.num k (by omega)) (by omega)
  have HP2 := Lib.hid hp2
  have HRP := Lib.hid hrp
  have HIS := Lib.hid his
  clear hdg hvl hlv hp2 hrp his
  have HCUT := Lib.hid hcut
  have HTX := Lib.hid htx
  have HCK := Lib.hid hck
  have HLU := Lib.hid hlu
  have HIT := Lib.hid hit
  clear hcut htx hck hlu hit hk hs hsz hl1 hlow1 hg
  clear hA hlow hL hc hnil
  go_enter Try.func12, Try.ntmps12
  go_wp2_with (fail)
  refine (HCUT.out).mono ?_
  rintro e w1 ⟨va, rfl, hva, hb1⟩
  have ka := HLU.out _ _ _ hva
  clear hva
  go_wp2_with (fail)
  refine (HP2.out _).mono ?_
  rintro e w2 ⟨vn, rfl, hvn, hb2⟩
  have kn := hvn.is
  clear hvn
  have b2 := below_at hb1 (Nat.le_refl _) hb2
  have ka2 := ka.keep hb2
  clear ka
  go_wp2_with (fail)
  refine (HTX.out _ _ ka2).mono ?_
  rintro e w3 ⟨tt, rfl, ht, hb3⟩
  have b3 := below_at b2 (Nat.le_refl _) hb3
  have ka3 := ka2.keep hb3
  clear ka2
  have kn3 := kn.keep hb3
  clear kn
  have HT := Lib.hid ht
  clear ht
  go_wp2_with (fail)
  refine (HCK.out _ _ ka3).mono ?_
  rintro e w4 ⟨rfl, rfl⟩
  go_wp2_with (fail)
  refine (lives_any _).mono ?_
  rintro e w5 ⟨rfl, hb5⟩
  have b5 := below_at b3 (Nat.le_refl _) hb5
  have ka5 := ka3.keep hb5
  clear ka3
  have kn5 := kn3.keep hb5
  clear kn3
  go_wp2_with (fail)
  refine (HRT.out _ _ ka5).mono ?_
  rintro e w6 ⟨tr, rfl, htr, hb6⟩
  have b6 := below_at b5 (Nat.le_refl _) hb6
  have hteq := codes_inj (HT.out.trans htr.symm)
  clear htr ka5
  have kn6 := kn5.keep hb6
  clear kn5
  go_wp2_with (fail)
  refine (HIT.out _).mono ?_
  rintro e w7 ⟨rfl, rfl⟩
  go_wp2_with (fail)
  refine (HRP.out _).mono ?_
  rintro e w8 ⟨vp, rfl, hvp, hb8⟩
  have b8 := below_at b6 (Nat.le_refl _) hb8
  have kn8 := kn6.keep hb8
  clear kn6
  go_wp2_with (fail)
  refine (HIS.out _ _ _ kn8 hvp).mono ?_
  rintro e w9 ⟨rfl, hb9⟩
  have b9 := below_at b8 (Nat.le_refl _) hb9
  go_wp2
  go_ret
  exact ⟨rfl, b9⟩

set_option maxHeartbeats 4000000 in
set_option maxRecDepth 100000 in
theorem texts_btx (A : Option Addr) (c L : Nat) (xs : List Nat) (s : ByteArray) (w : World) (hA : Nums .u32 w A xs) (hlow : Low B32 xs) (hL : L = xs.length) (hc : L ≤ c) (hnil : A = none → c = 0) (hs : 300 < s.size) (hk : numTxt (codes (s.extract 0 300)) = true) (hg : chk (xs.take 24) ≠ 0) :
    Calls Try.prog 12 #[.string s, .slice A L c] w (LivesPost w) := by
  have hcut : Calls Try.prog 26 #[.slice A L c, .int .i64 24] w (LsPost w (xs.take 24)) := cut_any A c L 24 xs w hA hL hc hnil (by omega)
  have hl1 : (xs.take 24).length ≤ 24 := by rw [List.length_take]; omega
  have hlow1 := hlow.take 24
  generalize xs.take 24 = us at *
  have htx := fun a w h => text_bad a us w h hg
  have hck := fun a w h => refCheck_l a us w h
  have hlu : ∀ B w' a, OwnLs B w' a us → Limbs w' a us := fun B w' a h => h.limbs (by omega)
  generalize chk us = r at *
  have hr1 : (r != 0) = true := by simp [hg]
  have hr0 : (r == 0) = false := by simp [hg]
  have hr2 : (r != r) = false := by simp
  have hd : decide ((300 : Int) < (s.size : Int)) = true := decide_eq_true (by omega)
  have hsz := extract_size3 s hs
  have hle : (300 : Int) ≤ (s.size : Int) := by omega
  have hle2 : 300 ≤ s.size := by omega
  obtain ⟨s2, hs2⟩ : ∃ s2, s.extract 0 300 = s2 := ⟨_, rfl⟩
  rw [hs2] at hsz hk
  have hsz : s2.size ≤ 300 := by omega
  have hit := fun w => isText_any s2 w (by omega)
  rw [hk] at hit
  have hdg := (of_decide_eq_true hk).2.1
  have hvl := dval_lt (codes s2) (fun x h => (hdg x h).2) s2.size
  rw [List.take_of_length_le (by rw [codes_len]; exact Nat.le_refl _)] at hvl
  have hlv : (dig B32 (dval (codes s2))).length ≤ 300 := Nat.le_trans (len_ten hvl) hsz
  have hp2 := fun w => parse_ok s2 w (by omega) hk
  have hrp := fun w => refParse_any s2 w (by omega) hdg
  generalize dval (codes s2) = p at *
  have his := fun a b w (h : N32 w a p) (k : N32 w b p) => is_ok a b p w h (Limbs.num k (by omega)) (by omega)
  have HP2 := Lib.hid hp2
  have HRP := Lib.hid hrp
  have HIS := Lib.hid his
  clear hdg hvl hlv hp2 hrp his
  have HCUT := Lib.hid hcut
  have HTX := Lib.hid htx
  have HCK := Lib.hid hck
  have HLU := Lib.hid hlu
  have HIT := Lib.hid hit
  clear hcut htx hck hlu hit hk hs hsz hl1 hlow1 hg
  clear hA hlow hL hc hnil
  go_enter Try.func12, Try.ntmps12
  go_wp2_with (fail)
  refine (HCUT.out).mono ?_
  rintro e w1 ⟨va, rfl, hva, hb1⟩
  have ka := HLU.out _ _ _ hva
  clear hva
  go_wp2_with (fail)
  refine (HP2.out _).mono ?_
  rintro e w2 ⟨vn, rfl, hvn, hb2⟩
  have kn := hvn.is
  clear hvn
  have b2 := below_at hb1 (Nat.le_refl _) hb2
  have ka2 := ka.keep hb2
  clear ka
  go_wp2_with (fail)
  refine (HTX.out _ _ ka2).mono ?_
  rintro e w3 ⟨tt, rfl, ht, hb3⟩
  have b3 := below_at b2 (Nat.le_refl _) hb3
  have ka3 := ka2.keep hb3
  clear ka2
  have kn3 := kn.keep hb3
  clear kn
  have hte := empty_of ht
  clear ht
  go_wp2_with (fail)
  refine (HCK.out _ _ ka3).mono ?_
  rintro e w4 ⟨rfl, rfl⟩
  go_wp2_with (fail)
  refine (lives_any _).mono ?_
  rintro e w5 ⟨rfl, hb5⟩
  have b5 := below_at b3 (Nat.le_refl _) hb5
  have ka5 := ka3.keep hb5
  clear ka3
  have kn5 := kn3.keep hb5
  clear kn3
  obtain ⟨w6, hw6⟩ : ∃ w6, w5 = w6 := ⟨_, rfl⟩
  subst hw6
  have b6 := b5
  clear ka5
  have kn6 := kn5
  clear kn5
  go_wp2_with (fail)
  refine (HIT.out _).mono ?_
  rintro e w7 ⟨rfl, rfl⟩
  go_wp2_with (fail)
  refine (HRP.out _).mono ?_
  rintro e w8 ⟨vp, rfl, hvp, hb8⟩
  have b8 := below_at b6 (Nat.le_refl _) hb8
  have kn8 := kn6.keep hb8
  clear kn6
  go_wp2_with (fail)
  refine (HIS.out _ _ _ kn8 hvp).mono ?_
  rintro e w9 ⟨rfl, hb9⟩
  have b9 := below_at b8 (Nat.le_refl _) hb9
  go_wp2
  go_ret
  exact ⟨rfl, b9⟩

set_option maxHeartbeats 4000000 in
set_option maxRecDepth 100000 in
theorem texts_bfg (A : Option Addr) (c L : Nat) (xs : List Nat) (s : ByteArray) (w : World) (hA : Nums .u32 w A xs) (hlow : Low B32 xs) (hL : L = xs.length) (hc : L ≤ c) (hnil : A = none → c = 0) (hs : 300 < s.size) (hk : numTxt (codes (s.extract 0 300)) = false) (hg : chk (xs.take 24) = 0) :
    Calls Try.prog 12 #[.string s, .slice A L c] w (LivesPost w) := by
  have hcut : Calls Try.prog 26 #[.slice A L c, .int .i64 24] w (LsPost w (xs.take 24)) := cut_any A c L 24 xs w hA hL hc hnil (by omega)
  have hl1 : (xs.take 24).length ≤ 24 := by rw [List.length_take]; omega
  have hlow1 := hlow.take 24
  generalize xs.take 24 = us at *
  have hdu := chk_zero hlow1 hg
  generalize val B32 us = m at *
  subst hdu
  have htx := fun a w (h : Limbs w a (dig B32 m)) => text_any a m w h.is (by omega)
  have hrt := fun a w (h : Limbs w a (dig B32 m)) => refText_any a m w h.is (by omega) (Nat.le_trans (len_ten_bits (bits_of_len hl1)) (by omega))
  have hck := fun a w h => refCheck_l a (dig B32 m) w h
  rw [hg] at hck
  have hlu : ∀ B w' a, OwnLs B w' a (dig B32 m) → Limbs w' a (dig B32 m) := fun B w' a h => h.limbs (by omega)
  have HRT := Lib.hid hrt
  clear hrt
  have hd : decide ((300 : Int) < (s.size : Int)) = true := decide_eq_true (by omega)
  have hsz := extract_size3 s hs
  have hle : (300 : Int) ≤ (s.size : Int) := by omega
  have hle2 : 300 ≤ s.size := by omega
  obtain ⟨s2, hs2⟩ : ∃ s2, s.extract 0 300 = s2 := ⟨_, rfl⟩
  rw [hs2] at hsz hk
  have hsz : s2.size ≤ 300 := by omega
  have hit := fun w => isText_any s2 w (by omega)
  rw [hk] at hit
  have hp2 := fun w => parse_bad s2 w (by omega) hk
  have his := fun w => is_err (.slice none 0 0) 2 w (by decide)
  have HP2 := Lib.hid hp2
  have HIS := Lib.hid his
  clear hp2 his
  have HCUT := Lib.hid hcut
  have HTX := Lib.hid htx
  have HCK := Lib.hid hck
  have HLU := Lib.hid hlu
  have HIT := Lib.hid hit
  clear hcut htx hck hlu hit hk hs hsz hl1 hlow1 hg
  clear hA hlow hL hc hnil
  go_enter Try.func12, Try.ntmps12
  go_wp2_with (fail)
  refine (HCUT.out).mono ?_
  rintro e w1 ⟨va, rfl, hva, hb1⟩
  have ka := HLU.out _ _ _ hva
  clear hva
  go_wp2_with (fail)
  refine (HP2.out _).mono ?_
  rintro e w2 ⟨rfl, hb2⟩
  have b2 := below_at hb1 (Nat.le_refl _) hb2
  have ka2 := ka.keep hb2
  clear ka
  go_wp2_with (fail)
  refine (HTX.out _ _ ka2).mono ?_
  rintro e w3 ⟨tt, rfl, ht, hb3⟩
  have b3 := below_at b2 (Nat.le_refl _) hb3
  have ka3 := ka2.keep hb3
  clear ka2
  have HT := Lib.hid ht
  clear ht
  go_wp2_with (fail)
  refine (HCK.out _ _ ka3).mono ?_
  rintro e w4 ⟨rfl, rfl⟩
  go_wp2_with (fail)
  refine (lives_any _).mono ?_
  rintro e w5 ⟨rfl, hb5⟩
  have b5 := below_at b3 (Nat.le_refl _) hb5
  have ka5 := ka3.keep hb5
  clear ka3
  go_wp2_with (fail)
  refine (HRT.out _ _ ka5).mono ?_
  rintro e w6 ⟨tr, rfl, htr, hb6⟩
  have b6 := below_at b5 (Nat.le_refl _) hb6
  have hteq := codes_inj (HT.out.trans htr.symm)
  clear htr ka5
  go_wp2_with (fail)
  refine (HIT.out _).mono ?_
  rintro e w7 ⟨rfl, rfl⟩
  go_wp2_with (fail)
  refine (HIS.out _).mono ?_
  rintro e w9 ⟨rfl, hb9⟩
  have b9 := below_at b6 (Nat.le_refl _) hb9
  go_wp2
  go_ret
  exact ⟨rfl, b9⟩

set_option maxHeartbeats 4000000 in
set_option maxRecDepth 100000 in
theorem texts_bfx (A : Option Addr) (c L : Nat) (xs : List Nat) (s : ByteArray) (w : World) (hA : Nums .u32 w A xs) (hlow : Low B32 xs) (hL : L = xs.length) (hc : L ≤ c) (hnil : A = none → c = 0) (hs : 300 < s.size) (hk : numTxt (codes (s.extract 0 300)) = false) (hg : chk (xs.take 24) ≠ 0) :
    Calls Try.prog 12 #[.string s, .slice A L c] w (LivesPost w) := by
  have hcut : Calls Try.prog 26 #[.slice A L c, .int .i64 24] w (LsPost w (xs.take 24)) := cut_any A c L 24 xs w hA hL hc hnil (by omega)
  have hl1 : (xs.take 24).length ≤ 24 := by rw [List.length_take]; omega
  have hlow1 := hlow.take 24
  generalize xs.take 24 = us at *
  have htx := fun a w h => text_bad a us w h hg
  have hck := fun a w h => refCheck_l a us w h
  have hlu : ∀ B w' a, OwnLs B w' a us → Limbs w' a us := fun B w' a h => h.limbs (by omega)
  generalize chk us = r at *
  have hr1 : (r != 0) = true := by simp [hg]
  have hr0 : (r == 0) = false := by simp [hg]
  have hr2 : (r != r) = false := by simp
  have hd : decide ((300 : Int) < (s.size : Int)) = true := decide_eq_true (by omega)
  have hsz := extract_size3 s hs
  have hle : (300 : Int) ≤ (s.size : Int) := by omega
  have hle2 : 300 ≤ s.size := by omega
  obtain ⟨s2, hs2⟩ : ∃ s2, s.extract 0 300 = s2 := ⟨_, rfl⟩
  rw [hs2] at hsz hk
  have hsz : s2.size ≤ 300 := by omega
  have hit := fun w => isText_any s2 w (by omega)
  rw [hk] at hit
  have hp2 := fun w => parse_bad s2 w (by omega) hk
  have his := fun w => is_err (.slice none 0 0) 2 w (by decide)
  have HP2 := Lib.hid hp2
  have HIS := Lib.hid his
  clear hp2 his
  have HCUT := Lib.hid hcut
  have HTX := Lib.hid htx
  have HCK := Lib.hid hck
  have HLU := Lib.hid hlu
  have HIT := Lib.hid hit
  clear hcut htx hck hlu hit hk hs hsz hl1 hlow1 hg
  clear hA hlow hL hc hnil
  go_enter Try.func12, Try.ntmps12
  go_wp2_with (fail)
  refine (HCUT.out).mono ?_
  rintro e w1 ⟨va, rfl, hva, hb1⟩
  have ka := HLU.out _ _ _ hva
  clear hva
  go_wp2_with (fail)
  refine (HP2.out _).mono ?_
  rintro e w2 ⟨rfl, hb2⟩
  have b2 := below_at hb1 (Nat.le_refl _) hb2
  have ka2 := ka.keep hb2
  clear ka
  go_wp2_with (fail)
  refine (HTX.out _ _ ka2).mono ?_
  rintro e w3 ⟨tt, rfl, ht, hb3⟩
  have b3 := below_at b2 (Nat.le_refl _) hb3
  have ka3 := ka2.keep hb3
  clear ka2
  have hte := empty_of ht
  clear ht
  go_wp2_with (fail)
  refine (HCK.out _ _ ka3).mono ?_
  rintro e w4 ⟨rfl, rfl⟩
  go_wp2_with (fail)
  refine (lives_any _).mono ?_
  rintro e w5 ⟨rfl, hb5⟩
  have b5 := below_at b3 (Nat.le_refl _) hb5
  have ka5 := ka3.keep hb5
  clear ka3
  obtain ⟨w6, hw6⟩ : ∃ w6, w5 = w6 := ⟨_, rfl⟩
  subst hw6
  have b6 := b5
  clear ka5
  go_wp2_with (fail)
  refine (HIT.out _).mono ?_
  rintro e w7 ⟨rfl, rfl⟩
  go_wp2_with (fail)
  refine (HIS.out _).mono ?_
  rintro e w9 ⟨rfl, hb9⟩
  have b9 := below_at b6 (Nat.le_refl _) hb9
  go_wp2
  go_ret
  exact ⟨rfl, b9⟩

theorem texts_walk (A : Option Addr) (c L : Nat) (xs : List Nat) (s : ByteArray) (w : World) (hA : Nums .u32 w A xs) (hlow : Low B32 xs) (hL : L = xs.length) (hc : L ≤ c) (hnil : A = none → c = 0) :
    Calls Try.prog 12 #[.string s, .slice A L c] w (LivesPost w) := by
  rcases Nat.lt_or_ge 300 s.size with h | h
  · cases hk : numTxt (codes (s.extract 0 300)) with
    | true =>
      by_cases hg : chk (xs.take 24) = 0
      · exact texts_btg A c L xs s w hA hlow hL hc hnil h hk hg
      · exact texts_btx A c L xs s w hA hlow hL hc hnil h hk hg
    | false =>
      by_cases hg : chk (xs.take 24) = 0
      · exact texts_bfg A c L xs s w hA hlow hL hc hnil h hk hg
      · exact texts_bfx A c L xs s w hA hlow hL hc hnil h hk hg
  · cases hk : numTxt (codes s) with
    | true =>
      by_cases hg : chk (xs.take 24) = 0
      · exact texts_stg A c L xs s w hA hlow hL hc hnil h hk hg
      · exact texts_stx A c L xs s w hA hlow hL hc hnil h hk hg
    | false =>
      by_cases hg : chk (xs.take 24) = 0
      · exact texts_sfg A c L xs s w hA hlow hL hc hnil h hk hg
      · exact texts_sfx A c L xs s w hA hlow hL hc hnil h hk hg
end Go.Proofs.Ytaegkhdkhgemmaa
