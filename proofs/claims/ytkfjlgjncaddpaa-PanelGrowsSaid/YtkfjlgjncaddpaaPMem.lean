/- What is said of memory in package panel: shapes, cuts, pieces and tables as cells. -/
import Derived.Test.YtkfjlgjncaddpaaProg
import Derived.Test.YtkfjlgjncaddpaaMemN
import Derived.Test.YtkfjlgjncaddpaaPan
import Derived.Lib.SliceRun
import Derived.Laws.AppendOwn
import Derived.Laws.AppendOwnNone
import Derived.Maps.AppendAt
namespace Go.Proofs.Ytkfjlgjncaddpaa
open Go.RowKit

/-- A function changed at one place. -/
def upd {α : Type} (f : Nat → α) (k : Nat) (v : α) : Nat → α := fun j => if j = k then v else f j
theorem upd_at {α : Type} (f : Nat → α) (k : Nat) (v : α) : upd f k v k = v := by simp [upd]
theorem upd_ne {α : Type} {f : Nat → α} {k j : Nat} {v : α} (h : j ≠ k) : upd f k v j = f j := by simp [upd, h]
/-- The first n values of a function, as cells. -/
def fl (f : Nat → Int) (n : Nat) : List Value := (List.range n).map fun i => .int .i64 (f i)
theorem fl_len (f : Nat → Int) (n : Nat) : (fl f n).length = n := by simp [fl]
theorem fl_at {f : Nat → Int} {n i : Nat} (h : i < n) : (fl f n)[i]? = some (.int .i64 (f i)) := by simp [fl, h]
theorem fl_const (x : Int) (n : Nat) : fl (fun _ => x) n = List.replicate n (.int .i64 x) := by
  apply List.ext_getElem?
  intro i
  by_cases h : i < n
  · rw [fl_at h, List.getElem?_replicate, if_pos h]
  · rw [List.getElem?_eq_none (by rw [fl_len]; omega), List.getElem?_eq_none (by simp; omega)]
theorem fl_set (f : Nat → Int) (n k : Nat) (v : Int) : (fl f n).set k (.int .i64 v) = fl (upd f k v) n := by
  apply List.ext_getElem?
  intro i
  rw [List.getElem?_set]
  by_cases hi : i < n
  · by_cases e : k = i
    · subst e
      rw [if_pos rfl, fl_at hi, upd_at]
      simp [fl_len, hi]
    · rw [if_neg e, fl_at hi, fl_at hi, upd_ne (fun h => e h.symm)]
  · rw [List.getElem?_eq_none (l := fl (upd f k v) n) (by rw [fl_len]; omega)]
    split
    · simp [fl_len]; omega
    · rw [List.getElem?_eq_none (by rw [fl_len]; omega)]
theorem fl_congr {f g : Nat → Int} {n : Nat} (h : ∀ i, i < n → f i = g i) : fl f n = fl g n := by
  unfold fl
  apply List.map_congr_left
  intro i hi
  rw [h i (List.mem_range.1 hi)]
theorem fl_one (f : Nat → Int) (n : Nat) : ∀ v ∈ fl f n, v.oneCell' = true := by
  intro v hv
  simp only [fl, List.mem_map] at hv
  obtain ⟨x, _, rfl⟩ := hv
  rfl
theorem fl_is (f : Nat → Int) (n : Nat) : fl f n = is ((List.range n).map f) := by simp [fl, is, List.map_map, Function.comp_def]
theorem is_fl (l : List Int) : is l = fl (fun i => l.getD i 0) l.length := by
  apply List.ext_getElem?
  intro i
  by_cases h : i < l.length
  · rw [fl_at h, is_at (List.getElem?_eq_getElem h), List.getD_eq_getElem?_getD, List.getElem?_eq_getElem h]; rfl
  · rw [List.getElem?_eq_none (by rw [is_len]; omega), List.getElem?_eq_none (by rw [fl_len]; omega)]
theorem Blk.int {T : TypeId} {w : World} {g n k : Nat} {f : Nat → Int} (h : Blk T w g (fl f n)) (hk : k < n) : w.cell? ⟨g, k, none⟩ = some (.int .i64 (f k)) := (h.cell k).trans (fl_at hk)
theorem Blk.setI {T : TypeId} {w : World} {g n : Nat} {f : Nat → Int} (h : Blk T w g (fl f n)) (k : Nat) (x : Int) : Blk T (w.setCell ⟨g, k, none⟩ (.int .i64 x)) g (fl (upd f k x) n) := by
  have := h.set k (.int .i64 x)
  rwa [fl_set] at this

/-- Elements of k cells each. -/
theorem flat_at {α : Type} {f : α → List Value} {k : Nat} (hf : ∀ x, (f x).length = k) : ∀ {l : List α} {i j : Nat} {x : α}, l[i]? = some x → j < k → (l.flatMap f)[i * k + j]? = (f x)[j]?
  | [], i, j, x, h, _ => by simp at h
  | a :: l, 0, j, x, h, hj => by
    simp at h
    subst h
    rw [List.flatMap_cons, Nat.zero_mul, Nat.zero_add, List.getElem?_append_left (by rw [hf]; exact hj)]
  | a :: l, i + 1, j, x, h, hj => by
    have h' : l[i]? = some x := by simpa using h
    rw [List.flatMap_cons, List.getElem?_append_right (by rw [hf, Nat.succ_mul]; omega), hf]
    have e : (i + 1) * k + j - k = i * k + j := by rw [Nat.succ_mul]; omega
    rw [e]
    exact flat_at hf h' hj
theorem flat_len {α : Type} {f : α → List Value} {k : Nat} (hf : ∀ x, (f x).length = k) (l : List α) : (l.flatMap f).length = l.length * k := by
  induction l with
  | nil => simp
  | cons a l ih => rw [List.flatMap_cons, List.length_append, hf, ih, List.length_cons, Nat.succ_mul]; omega


theorem info_parts {x : Option TypeInfo} {z : Value} {k b : Nat} (h : x.map (fun i => (i.zero, i.size, i.bytes)) = some (some z, k, b)) : ∃ i, x = some i ∧ i.zero = some z ∧ i.size = k ∧ i.bytes = b := by
  obtain ⟨i, h1, h2⟩ := Option.map_eq_some_iff.1 h
  simp only [Prod.mk.injEq] at h2
  exact ⟨i, h1, h2⟩
def zInt : Value := .int .i64 0
theorem infoInt : (Try.prog.info? 3).map (fun i => (i.zero, i.size, i.bytes)) = some (some zInt, 1, 8) := by kernel_rfl
def zCut : Value := .agg #[.int .i64 0, .int .i64 0]
theorem infoCut : (Try.prog.info? 73).map (fun i => (i.zero, i.size, i.bytes)) = some (some zCut, 2, 16) := by kernel_rfl
def zSh : Value := .agg #[.int .i64 0, .int .i64 0, .int .i64 0, .bool false]
theorem infoSh : (Try.prog.info? 65).map (fun i => (i.zero, i.size, i.bytes)) = some (some zSh, 4, 32) := by kernel_rfl
def zPc : Value := .agg #[.int .i64 0, .int .i64 0, .int .i64 0, .int .i64 0, .int .i64 0]
theorem infoPc : (Try.prog.info? 53).map (fun i => (i.zero, i.size, i.bytes)) = some (some zPc, 5, 40) := by kernel_rfl
def zRow : Value := .slice none 0 0
theorem infoRow : (Try.prog.info? 34).map (fun i => (i.zero, i.size, i.bytes)) = some (some zRow, 1, 24) := by kernel_rfl
set_option maxRecDepth 1000000 in
theorem z83 : Try.zeroCells83 = (.int .i64 0 :: .slice none 0 0 :: List.replicate 12675 (.int .i64 0)).toArray := by kernel_rfl

/-- A row of the call's own with room for cap elements of k cells, whose head are n elements: these cells. -/
def OwnR (B T k : Nat) (w : World) (v : Value) (n : Nat) (vs : List Value) : Prop := ∃ g cap, v = .slice (some ⟨g, 0, none⟩) n cap ∧ B ≤ g ∧ n ≤ cap ∧ cap ≤ maxLen ∧ vs.length = n * k ∧ Hd T w g (cap * k) vs
theorem own_hd {B T k : Nat} {w : World} {v : Value} {n : Nat} {vs : List Value} (h : w.ownsRow B T k v n vs) (hv : v ≠ .slice none 0 0) : OwnR B T k w v n vs := by
  rcases h.2 with ⟨h1, _⟩ | ⟨g, cap, cur, e, h1, h2, h3, h4, h5, h6⟩
  · exact absurd h1 hv
  · refine ⟨g, cap, e, h1, h3, h4, h.1, cur.toList.drop (n * k), ?_, ?_⟩
    · have := h.1; have h7 : n * k ≤ cap * k := Nat.mul_le_mul_right _ h3
      rw [List.length_drop]; simp only [Array.length_toList]; omega
    · rw [← h6]
      unfold Blk
      rw [List.take_append_drop]
      simpa using h2
theorem hd_own {B T k : Nat} {w : World} {v : Value} {n : Nat} {vs : List Value} (h : OwnR B T k w v n vs) : w.ownsRow B T k v n vs := by
  obtain ⟨g, cap, e, h1, h3, h4, h5, rest, h6, h7⟩ := h
  refine ⟨h5, .inr ⟨g, cap, (vs ++ rest).toArray, e, h1, h7, h3, h4, by simp; omega, ?_⟩⟩
  show (vs ++ rest).take (n * k) = vs
  exact List.take_left' h5
theorem OwnR.vals {B T k : Nat} {w : World} {v : Value} {n : Nat} {vs : List Value} (h : OwnR B T k w v n vs) : ∃ g cap, v = .slice (some ⟨g, 0, none⟩) n cap ∧ B ≤ g ∧ g < w.heap.size ∧ n ≤ cap ∧ Vals w (some ⟨g, 0, none⟩) vs := by
  obtain ⟨g, cap, e, h1, h3, _, _, h4⟩ := h
  exact ⟨g, cap, e, h1, h4.lt, h3, h4.vals⟩
theorem OwnR.keep {B T k : Nat} {w w' : World} {v : Value} {n : Nat} {vs : List Value} (h : OwnR B T k w v n vs) (hb : Below w.heap.size w w') : OwnR B T k w' v n vs := by
  obtain ⟨g, cap, e, h1, h3, h4, h5, h6⟩ := h
  exact ⟨g, cap, e, h1, h3, h4, h5, h6.keep hb⟩
theorem OwnR.drewN {B T k : Nat} {w : World} {v : Value} {n : Nat} {vs : List Value} (h : OwnR B T k w v n vs) (m : Nat) : OwnR B T k (w.drewN m) v n vs := by
  obtain ⟨g, cap, e, h1, h3, h4, h5, h6⟩ := h
  exact ⟨g, cap, e, h1, h3, h4, h5, h6.drewN m⟩
theorem own_new (w : World) (T k : Nat) : (w.alloc (.cells #[] T)).ownsRow w.heap.size T k (.slice (some ⟨w.heap.size, 0, none⟩) 0 0) 0 [] :=
  ⟨by simp, .inr ⟨w.heap.size, 0, #[], rfl, Nat.le_refl _, heap_alloc_new _ _, Nat.le_refl _, by unfold maxLen; omega, by simp, by simp⟩⟩
theorem own_nil (w : World) (B T k : Nat) : w.ownsRow B T k (.slice none 0 0) 0 [] := ⟨by simp, .inl ⟨rfl, rfl⟩⟩


/-- A shape, a cut, a piece as cells. -/
def shC (s : Sh) : List Value := [.int .i64 s.w, .int .i64 s.h, .int .i64 s.v, .bool s.t]
theorem shC_len (s : Sh) : (shC s).length = 4 := rfl
def sc (ss : List Sh) : List Value := ss.flatMap shC
theorem sc_len (ss : List Sh) : (sc ss).length = ss.length * 4 := flat_len shC_len ss
theorem sc_append (a b : List Sh) : sc (a ++ b) = sc a ++ sc b := by simp [sc]
theorem sc_one (ss : List Sh) : ∀ v ∈ sc ss, v.oneCell' = true := by
  intro v hv
  simp only [sc, List.mem_flatMap, shC, List.mem_cons, List.not_mem_nil, or_false] at hv
  obtain ⟨t, _, rfl | rfl | rfl | rfl⟩ := hv <;> rfl
theorem flat_take {α : Type} {f : α → List Value} {k : Nat} (hf : ∀ x, (f x).length = k) (l : List α) (n : Nat) : (l.flatMap f).take (n * k) = (l.take n).flatMap f := by
  induction l generalizing n with
  | nil => simp
  | cons a l ih =>
    cases n with
    | zero => simp
    | succ n =>
      rw [List.flatMap_cons, List.take_succ_cons, List.flatMap_cons, List.take_append, hf, List.take_of_length_le (by rw [hf, Nat.succ_mul]; omega), ← ih n]
      congr 2
      rw [Nat.succ_mul]; omega
theorem sc_take (ss : List Sh) (n : Nat) : (sc ss).take (n * 4) = sc (ss.take n) := flat_take shC_len ss n
abbrev ShAt (w : World) (A : Option Addr) (ss : List Sh) : Prop := Vals w A (sc ss)
theorem ShAt.at_ {w : World} {A : Option Addr} {ss : List Sh} (h : ShAt w A ss) {i : Nat} (hi : i < ss.length) :
    ∃ g off, A = some ⟨g, off, none⟩ ∧ g < w.heap.size ∧ w.cell? ⟨g, off + i * 4, none⟩ = some (.int .i64 (ss.getD i sh0).w) ∧ w.cell? ⟨g, off + i * 4 + 1, none⟩ = some (.int .i64 (ss.getD i sh0).h) ∧ w.cell? ⟨g, off + i * 4 + 2, none⟩ = some (.int .i64 (ss.getD i sh0).v) ∧ w.cell? ⟨g, off + i * 4 + 3, none⟩ = some (.bool (ss.getD i sh0).t) := by
  have ht : ss[i]? = some (ss.getD i sh0) := by rw [List.getD_eq_getElem?_getD, List.getElem?_eq_getElem hi]; rfl
  obtain ⟨g, off, e, hg, hc⟩ := h (by rw [sc_len]; omega)
  have hc2 : ∀ (a b : Nat) (v : Value), (sc ss)[a + b]? = some v → w.cell? ⟨g, off + a + b, none⟩ = some v := fun a b v hv => by rw [Nat.add_assoc off]; exact hc _ _ hv
  refine ⟨g, off, e, hg, hc _ _ ?_, hc2 _ _ _ ?_, hc2 _ _ _ ?_, hc2 _ _ _ ?_⟩
  · have := flat_at shC_len ht (j := 0) (by omega); simpa [sc, shC] using this
  · have := flat_at shC_len ht (j := 1) (by omega); simpa [sc, shC] using this
  · have := flat_at shC_len ht (j := 2) (by omega); simpa [sc, shC] using this
  · have := flat_at shC_len ht (j := 3) (by omega); simpa [sc, shC] using this

structure Cu where
  k : Int
  a : Int
deriving DecidableEq
def cu0 : Cu := ⟨0, 0⟩
def cuC (c : Cu) : List Value := [.int .i64 c.k, .int .i64 c.a]
theorem cuC_len (c : Cu) : (cuC c).length = 2 := rfl
def cc (l : List Cu) : List Value := l.flatMap cuC
theorem cc_len (l : List Cu) : (cc l).length = l.length * 2 := flat_len cuC_len l
theorem cc_append (a b : List Cu) : cc (a ++ b) = cc a ++ cc b := by simp [cc]
theorem cc_take (l : List Cu) (n : Nat) : (cc l).take (n * 2) = cc (l.take n) := flat_take cuC_len l n
theorem cc_one (l : List Cu) : ∀ v ∈ cc l, v.oneCell' = true := by
  intro v hv
  simp only [cc, List.mem_flatMap, cuC, List.mem_cons, List.not_mem_nil, or_false] at hv
  obtain ⟨t, _, rfl | rfl⟩ := hv <;> rfl
abbrev CuAt (w : World) (A : Option Addr) (l : List Cu) : Prop := Vals w A (cc l)
theorem CuAt.at_ {w : World} {A : Option Addr} {l : List Cu} (h : CuAt w A l) {i : Nat} (hi : i < l.length) :
    ∃ g off, A = some ⟨g, off, none⟩ ∧ g < w.heap.size ∧ w.cell? ⟨g, off + i * 2, none⟩ = some (.int .i64 (l.getD i cu0).k) ∧ w.cell? ⟨g, off + i * 2 + 1, none⟩ = some (.int .i64 (l.getD i cu0).a) := by
  have ht : l[i]? = some (l.getD i cu0) := by rw [List.getD_eq_getElem?_getD, List.getElem?_eq_getElem hi]; rfl
  obtain ⟨g, off, e, hg, hc⟩ := h (by rw [cc_len]; omega)
  have hc2 : ∀ (a b : Nat) (v : Value), (cc l)[a + b]? = some v → w.cell? ⟨g, off + a + b, none⟩ = some v := fun a b v hv => by rw [Nat.add_assoc off]; exact hc _ _ hv
  refine ⟨g, off, e, hg, hc _ _ ?_, hc2 _ _ _ ?_⟩
  · have := flat_at cuC_len ht (j := 0) (by omega); simpa [cc, cuC] using this
  · have := flat_at cuC_len ht (j := 1) (by omega); simpa [cc, cuC] using this

/-- A rectangle as a value. -/
def rcV (x y w h : Int) : Value := .agg #[.int .i64 x, .int .i64 y, .int .i64 w, .int .i64 h]
def shV (s : Sh) : Value := .agg #[.int .i64 s.w, .int .i64 s.h, .int .i64 s.v, .bool s.t]

/-- The saw: its kerf, its shapes, the best choices that are known. -/
structure SawM (w : World) (p kerf : Nat) (A : Option Addr) (L c : Nat) (T : Nat → Nat → Cho) : Prop where
  kf : w.cell? ⟨p, 0, none⟩ = some (.int .i64 kerf)
  sl : w.cell? ⟨p, 1, none⟩ = some (.slice A L c)
  tk : ∀ i j, i < 65 → j < 65 → w.cell? ⟨p, 2 + i * 195 + j * 3, none⟩ = some (.int .i64 (T i j).k)
  ta : ∀ i j, i < 65 → j < 65 → w.cell? ⟨p, 2 + i * 195 + j * 3 + 1, none⟩ = some (.int .i64 (T i j).a)
  tv : ∀ i j, i < 65 → j < 65 → w.cell? ⟨p, 2 + i * 195 + j * 3 + 2, none⟩ = some (.int .i64 (T i j).v)
  fro : ∀ k, w.frozen? ⟨p, k, none⟩ = false
  lt : p < w.heap.size
section
variable {w w' : World} {p kerf L c : Nat} {A : Option Addr} {T : Nat → Nat → Cho}
theorem SawM.keep (h : SawM w p kerf A L c T) (hb : Below w.heap.size w w') : SawM w' p kerf A L c T := by
  have e : w'.heap[p]? = w.heap[p]? := hb.block p h.lt
  have hc : ∀ k, w'.cell? ⟨p, k, none⟩ = w.cell? ⟨p, k, none⟩ := fun k => by simp only [World.cell?, e]
  have hf : ∀ k, w'.frozen? ⟨p, k, none⟩ = w.frozen? ⟨p, k, none⟩ := fun k => by simp only [World.frozen?, e]
  exact ⟨(hc _).trans h.kf, (hc _).trans h.sl, fun i j hi hj => (hc _).trans (h.tk i j hi hj), fun i j hi hj => (hc _).trans (h.ta i j hi hj), fun i j hi hj => (hc _).trans (h.tv i j hi hj), fun k => (hf k).trans (h.fro k), Nat.lt_of_lt_of_le h.lt hb.size⟩
theorem SawM.drewN (h : SawM w p kerf A L c T) (z : Nat) : SawM (w.drewN z) p kerf A L c T := ⟨h.kf, h.sl, h.tk, h.ta, h.tv, h.fro, h.lt⟩
theorem SawM.drew (h : SawM w p kerf A L c T) : SawM w.drew p kerf A L c T := ⟨h.kf, h.sl, h.tk, h.ta, h.tv, h.fro, h.lt⟩
theorem sc_ne {w : World} {p k q : Nat} {v : Value} (h : k ≠ q) : (w.setCell ⟨p, k, none⟩ v).cell? ⟨p, q, none⟩ = w.cell? ⟨p, q, none⟩ :=
  World.cell?_setCell_other _ _ _ _ (fun e => by injection e with _ e; exact h e)
theorem sc_eq {w : World} {p k : Nat} {v u : Value} (h : w.cell? ⟨p, k, none⟩ = some u) : (w.setCell ⟨p, k, none⟩ v).cell? ⟨p, k, none⟩ = some v :=
  World.cell?_setCell_same _ _ _ h
theorem set3_other {w : World} {p o q : Nat} {a b d : Value} (h : q < o ∨ o + 2 < q) :
    (((w.setCell ⟨p, o, none⟩ a).setCell ⟨p, o + 1, none⟩ b).setCell ⟨p, o + 2, none⟩ d).cell? ⟨p, q, none⟩ = w.cell? ⟨p, q, none⟩ := by
  rw [sc_ne (by omega), sc_ne (by omega), sc_ne (by omega)]
theorem set3_at {w : World} {p o : Nat} {a b d x y z : Value} (h0 : w.cell? ⟨p, o, none⟩ = some x) (h1 : w.cell? ⟨p, o + 1, none⟩ = some y) (h2 : w.cell? ⟨p, o + 2, none⟩ = some z) :
    (((w.setCell ⟨p, o, none⟩ a).setCell ⟨p, o + 1, none⟩ b).setCell ⟨p, o + 2, none⟩ d).cell? ⟨p, o, none⟩ = some a ∧
    (((w.setCell ⟨p, o, none⟩ a).setCell ⟨p, o + 1, none⟩ b).setCell ⟨p, o + 2, none⟩ d).cell? ⟨p, o + 1, none⟩ = some b ∧
    (((w.setCell ⟨p, o, none⟩ a).setCell ⟨p, o + 1, none⟩ b).setCell ⟨p, o + 2, none⟩ d).cell? ⟨p, o + 2, none⟩ = some d := by
  refine ⟨?_, ?_, ?_⟩
  · rw [sc_ne (by omega), sc_ne (by omega), sc_eq h0]
  · rw [sc_ne (by omega), sc_eq ((sc_ne (by omega)).trans h1)]
  · rw [sc_eq ((sc_ne (by omega)).trans ((sc_ne (by omega)).trans h2))]
theorem SawM.set (h : SawM w p kerf A L c T) {i j : Nat} (hi : i < 65) (hj : j < 65) (x : Cho) :
    SawM (((w.setCell ⟨p, 2 + i * 195 + j * 3, none⟩ (.int .i64 x.k)).setCell ⟨p, 2 + i * 195 + j * 3 + 1, none⟩ (.int .i64 x.a)).setCell ⟨p, 2 + i * 195 + j * 3 + 2, none⟩ (.int .i64 x.v)) p kerf A L c (upd T i (upd (T i) j x)) := by
  obtain ⟨s0, s1, s2⟩ := set3_at (a := .int .i64 x.k) (b := .int .i64 x.a) (d := .int .i64 x.v) (h.tk i j hi hj) (h.ta i j hi hj) (h.tv i j hi hj)
  have hne : ∀ a b, a < 65 → b < 65 → ¬ (a = i ∧ b = j) → (upd T i (upd (T i) j x)) a b = T a b ∧ (2 + a * 195 + b * 3 + 2 < 2 + i * 195 + j * 3 ∨ 2 + i * 195 + j * 3 + 2 < 2 + a * 195 + b * 3) := by
    intro a b ha hb hn
    constructor
    · by_cases e : a = i
      · subst e
        rw [upd_at, upd_ne (fun e => hn ⟨rfl, e⟩)]
      · rw [upd_ne e]
    · omega
  have hat : (upd T i (upd (T i) j x)) i j = x := by rw [upd_at, upd_at]
  refine ⟨?_, ?_, fun a b ha hb => ?_, fun a b ha hb => ?_, fun a b ha hb => ?_, fun k => ?_, ?_⟩
  · rw [set3_other (by omega)]; exact h.kf
  · rw [set3_other (by omega)]; exact h.sl
  · by_cases e : a = i ∧ b = j
    · obtain ⟨rfl, rfl⟩ := e
      rw [hat]; exact s0
    · obtain ⟨e1, e2⟩ := hne a b ha hb e
      rw [e1, set3_other (by omega)]; exact h.tk a b ha hb
  · by_cases e : a = i ∧ b = j
    · obtain ⟨rfl, rfl⟩ := e
      rw [hat]; exact s1
    · obtain ⟨e1, e2⟩ := hne a b ha hb e
      rw [e1, set3_other (by omega)]; exact h.ta a b ha hb
  · by_cases e : a = i ∧ b = j
    · obtain ⟨rfl, rfl⟩ := e
      rw [hat]; exact s2
    · obtain ⟨e1, e2⟩ := hne a b ha hb e
      rw [e1, set3_other (by omega)]; exact h.tv a b ha hb
  · simp only [World.frozen?_setCell]; exact h.fro k
  · simpa using h.lt
theorem SawM.congr {T' : Nat → Nat → Cho} (h : SawM w p kerf A L c T) (e : ∀ i j, i < 65 → j < 65 → T' i j = T i j) : SawM w p kerf A L c T' :=
  ⟨h.kf, h.sl, fun i j hi hj => by rw [e i j hi hj]; exact h.tk i j hi hj, fun i j hi hj => by rw [e i j hi hj]; exact h.ta i j hi hj, fun i j hi hj => by rw [e i j hi hj]; exact h.tv i j hi hj, h.fro, h.lt⟩
end
/-- The saw that was just made. -/
theorem saw_new (w : World) (kerf : Nat) (A : Option Addr) (L c : Nat) : SawM (w.alloc (.cells (.int .i64 (kerf : Int) :: .slice A L c :: List.replicate 12675 (.int .i64 0)).toArray 83)) w.heap.size kerf A L c (fun _ _ => cho0) := by
  have hb := Blk.new w 83 (.int .i64 (kerf : Int) :: .slice A L c :: List.replicate 12675 (.int .i64 0))
  have hr : ∀ q, q < 12675 → (w.alloc (.cells (.int .i64 (kerf : Int) :: .slice A L c :: List.replicate 12675 (.int .i64 0)).toArray 83)).cell? ⟨w.heap.size, 2 + q, none⟩ = some (.int .i64 0) := by
    intro q hq
    rw [hb.cell, Nat.add_comm 2 q]
    show (List.replicate 12675 (Value.int .i64 0))[q]? = _
    rw [List.getElem?_replicate, if_pos hq]
  refine ⟨hb.cell 0, hb.cell 1, fun i j hi hj => ?_, fun i j hi hj => ?_, fun i j hi hj => ?_, fun k => hb.frozen k, hb.lt⟩
  · have := hr (i * 195 + j * 3) (by omega)
    rw [← Nat.add_assoc] at this; exact this
  · have := hr (i * 195 + j * 3 + 1) (by omega)
    rw [← Nat.add_assoc, ← Nat.add_assoc] at this; exact this
  · have := hr (i * 195 + j * 3 + 2) (by omega)
    rw [← Nat.add_assoc, ← Nat.add_assoc] at this; exact this
end Go.Proofs.Ytkfjlgjncaddpaa
