/- The reference's table, the plain part: the largest of all the offers, taken one after another, is the best choice's value. -/
import Derived.Test.YtkfjlgjncaddpaaWRcc
namespace Go.Proofs.Ytkfjlgjncaddpaa

/-- The table's numbers as the reference holds them. -/
def tbC (T : Nat → Nat → Cho) (a b : Nat) : Int := (T (a + 1) (b + 1)).v
theorem pc_tb (T : Nat → Nat → Cho) (a b : Int) : pc (tbC T) a b = pv T a b := by
  unfold pc pv tbC
  split
  · rfl
  · rw [show a.toNat - 1 + 1 = a.toNat by omega, show b.toNat - 1 + 1 = b.toNat by omega]
theorem offA2_tb (T : Nat → Nat → Cho) (kerf i j n : Nat) : offA2 (tbC T) kerf i j n = offA T kerf i j n := by
  unfold offA2 offA
  simp only [pc_tb]
theorem offD2_tb (T : Nat → Nat → Cho) (kerf i j n : Nat) : offD2 (tbC T) kerf i j n = offD T kerf i j n := by
  unfold offD2 offD
  simp only [pc_tb]
/-- The largest value among the first m offers, and 0. -/
def mxF (l : List Cho) (m : Nat) : Int := (l.take m).foldl (fun a x => max a x.v) 0
theorem mxF_zero (l : List Cho) : mxF l 0 = 0 := by simp [mxF]
theorem mxF_succ (l : List Cho) (m : Nat) (h : m < l.length) : mxF l (m + 1) = max (mxF l m) (l.getD m cho0).v := by
  unfold mxF
  rw [List.take_add_one, List.foldl_append, List.getElem?_eq_getElem h]
  simp [List.getD_eq_getElem?_getD, List.getElem?_eq_getElem h]
theorem offer_v (c o : Cho) : (offer c o).v = max c.v o.v := by
  unfold offer
  split <;> omega
theorem fold_v (l : List Cho) : ∀ c : Cho, (l.foldl offer c).v = l.foldl (fun a x => max a x.v) c.v := by
  induction l with
  | nil => intro c; rfl
  | cons x l ih => intro c; rw [List.foldl_cons, List.foldl_cons, ih, offer_v]
/-- All the offers of a rectangle as the reference lists them. -/
def refL (T : Nat → Nat → Cho) (kerf : Nat) (ss : List Sh) (i j : Nat) : List Cho := cho0 :: (offS ss i j ss.length ++ (offA2 (tbC T) kerf i j (i - 1) ++ offD2 (tbC T) kerf i j (j - 1)))
theorem refL_eq (T : Nat → Nat → Cho) (kerf : Nat) (ss : List Sh) (i j : Nat) : refL T kerf ss i j = cho0 :: offs T kerf ss i j := by
  unfold refL offs
  rw [offA2_tb, offD2_tb]
theorem refL_max (T : Nat → Nat → Cho) (kerf : Nat) (ss : List Sh) (i j : Nat) : mxF (refL T kerf ss i j) (refL T kerf ss i j).length = (choF T kerf ss i j).v := by
  rw [refL_eq]
  unfold mxF choF
  rw [List.take_length, List.foldl_cons, fold_v]
  rfl
theorem refL_best (kerf : Nat) (ss : List Sh) (h i j : Nat) (hi : 1 ≤ i) (hj : 1 ≤ j) (hjh : j ≤ h) :
    mxF (refL (filT kerf ss h i j) kerf ss i j) (refL (filT kerf ss h i j) kerf ss i j).length = (best kerf ss i j).v := by
  rw [refL_max, filT_cho kerf ss h i j hi hj hjh]
theorem mxF_nn (l : List Cho) (m : Nat) : 0 ≤ mxF l m := by
  induction m with
  | zero => simp [mxF]
  | succ m ih =>
    by_cases h : m < l.length
    · rw [mxF_succ l m h]; omega
    · have : l.take (m + 1) = l.take m := by rw [List.take_of_length_le (by omega), List.take_of_length_le (by omega)]
      unfold mxF at ih ⊢
      rw [this]; exact ih
theorem refL_len (T : Nat → Nat → Cho) (kerf : Nat) (ss : List Sh) (i j : Nat) (hi : 1 ≤ i) (hj : 1 ≤ j) : (refL T kerf ss i j).length ≤ 2 * ss.length + i + j := by
  unfold refL offA2 offD2
  have := offS_len ss i j ss.length
  simp only [List.length_cons, List.length_append, List.length_map, List.length_range]
  omega
theorem tbC_big {ss : List Sh} (hok : OkS ss) (kerf h i j : Nat) (hi : i ≤ 64) (hj : j ≤ 64) : ∀ a b : Int, a ≤ i → b ≤ j → a + b < i + j → 0 ≤ pc (tbC (filT kerf ss h i j)) a b ∧ pc (tbC (filT kerf ss h i j)) a b ≤ 4225000000 := by
  intro a b ha hb _
  rw [pc_tb]
  exact filT_big hok kerf h i j a b (by omega) (by omega)
end Go.Proofs.Ytkfjlgjncaddpaa
