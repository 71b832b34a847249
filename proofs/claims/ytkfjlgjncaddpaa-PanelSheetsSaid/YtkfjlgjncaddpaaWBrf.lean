/- The first cuts of a plan, copied. -/
import Derived.Test.YtkfjlgjncaddpaaWFew
namespace Go.Proofs.Ytkfjlgjncaddpaa
open Go.RowKit

def briefL (l : List Cu) : List Cu := l.take 300
def BrfPost (l : List Cu) (w : World) (e : Ending) (w' : World) : Prop :=
  ∃ g cap, e = .returned (.slice (some ⟨g, 0, none⟩) (briefL l).length cap) ∧ w.heap.size ≤ g ∧ (briefL l).length ≤ cap ∧ cap ≤ maxLen ∧ CuAt w' (some ⟨g, 0, none⟩) (briefL l) ∧ g < w'.heap.size ∧ Below w.heap.size w w'
set_option maxHeartbeats 2000000 in
set_option maxRecDepth 100000 in
theorem brief_any (A : Option Addr) (c L : Nat) (l : List Cu) (w : World) (hA : CuAt w A l) (hL : L = l.length) (hc : L ≤ c) (hnil : A = none → c = 0) :
    Calls Try.prog 26 #[.slice A L c] w (BrfPost l w) := by
  obtain ⟨m, hm⟩ : ∃ m, (briefL l).length = m := ⟨_, rfl⟩
  have hmL : m = if 300 < L then 300 else L := by
    rw [← hm, hL]; unfold briefL
    rw [List.length_take]; split <;> omega
  have hpos : 0 < L → ∃ ad, A = some ad := fun h => by
    obtain ⟨g, off, e, _⟩ := hA (by rw [cc_len]; omega)
    exact ⟨_, e⟩
  have hAt : Vals w A (cc (briefL l)) := by
    have := Vals.take hA (300 * 2)
    rw [cc_take] at this
    exact this
  obtain ⟨i0, hi, hz0, hz1, hz2⟩ := info_parts infoCut
  have hlen : (cc (briefL l)).length = m * 2 := by rw [cc_len, hm]
  have hone := cc_one (briefL l)
  have hbA := below_new w (.cells #[] 73)
  have ho := own_new w 73 2
  unfold BrfPost
  rw [hm]
  change Calls _ _ _ _ fun e w' => ∃ g cap, e = .returned (.slice (some ⟨g, 0, none⟩) m cap) ∧ w.heap.size ≤ g ∧ m ≤ cap ∧ cap ≤ maxLen ∧ Vals w' (some ⟨g, 0, none⟩) (cc (briefL l)) ∧ g < w'.heap.size ∧ Below w.heap.size w w'
  obtain ⟨cs, hcs⟩ : ∃ cs, cs = cc (briefL l) := ⟨_, rfl⟩
  rw [← hcs] at hlen hone hAt ⊢
  have HA := Lib.hid (hAt.keep hbA)
  have HLE := Lib.hid hlen
  have HON := Lib.hid hone
  have HO := Lib.hid ho
  have HBA := Lib.hid hbA
  clear hA hL hAt hlen hone hcs hm ho hbA
  have hm17 : m ≤ 300 := by split at hmL <;> omega
  have hm63 : 0 + m ≤ maxLen := by unfold maxLen; omega
  have hm64 : (0 + m) * 16 ≤ 140737488355328 := by omega
  by_cases h17 : 300 < L
  · rw [if_pos h17] at hmL
    subst hmL
    have d1 : decide ((300 : Int) < (L : Int)) = true := by simp; omega
    have d1' : decide (300 < L) = true := by simp; omega
    have s1 : (300 : Nat) ≤ c := by omega
    have s2 : ¬ c < 300 := by omega
    have s3 : ¬ (c : Int) < 300 := by omega
    obtain ⟨ad, rfl⟩ := hpos (by omega)
    clear hpos hnil
    go_enter Try.func26, Try.ntmps26
    go_wp2_with (at_builtin; refine unhideF ?_)
    refine Lib.hid ?_
    refine wpList_append_own _ rfl _ _ 36 rfl w.heap.size 73 i0 zCut 2 16 Try.underlying36 hi hz0 hz1 hz2 rfl (by decide) (.slice (some ⟨w.heap.size, 0, none⟩) 0 0) 0 [] rfl HO.out ad 300 _ cs rfl HLE.out (vals_cells HA.out) HON.out hm63 hm64 HBA.out.size ?_
    intro v' w1 hown hgr hne
    have hb1 := HBA.out.grown hgr HBA.out.size (by simp [Value.ownBlock])
    have hown2 : w1.ownsRow w.heap.size 73 2 v' 300 cs := by simpa using hown
    have hne2 : v' ≠ .slice none 0 0 := by simpa using hne
    obtain ⟨g, cap, rfl, h1, h2, h3, h4, h5⟩ := own_hd hown2 hne2
    have hvv := h5.vals
    have hgl := h5.lt
    clear hown hown2 hgr hne hne2
    go_wp2_with (fail)
    go_ret
    exact ⟨g, cap, rfl, h1, h2, h3, hvv, hgl, hb1⟩
  · rw [if_neg h17] at hmL
    have d1 : decide ((300 : Int) < (L : Int)) = false := by simp; omega
    have d1' : decide (300 < L) = false := by simp; omega
    subst hmL
    rcases A with _ | ad
    · have h0 : m = 0 := by
        rcases Nat.eq_zero_or_pos m with h | h
        · exact h
        · obtain ⟨ad, e⟩ := hpos h
          cases e
      have hc0 := hnil rfl
      subst h0
      subst hc0
      have he : cs = [] := List.eq_nil_of_length_eq_zero (by have := HLE.out; omega)
      have HE := Lib.hid he
      clear he hpos hnil
      go_enter Try.func26, Try.ntmps26
      go_wp2_with (at_builtin; refine wpList_append_own_none rfl _ _ 36 rfl w.heap.size 73 i0 2 Try.underlying36 hi _ _ _ rfl HO.out rfl ?_)
      go_ret
      exact ⟨w.heap.size, 0, rfl, Nat.le_refl _, Nat.le_refl _, by unfold maxLen; omega, by rw [HE.out]; exact Vals.nil, by simp, HBA.out⟩
    · clear hpos hnil
      go_enter Try.func26, Try.ntmps26
      go_wp2_with (at_builtin; refine unhideF ?_)
      refine Lib.hid ?_
      refine wpList_append_own _ rfl _ _ 36 rfl w.heap.size 73 i0 zCut 2 16 Try.underlying36 hi hz0 hz1 hz2 rfl (by decide) (.slice (some ⟨w.heap.size, 0, none⟩) 0 0) 0 [] rfl HO.out ad m _ cs rfl HLE.out (vals_cells HA.out) HON.out hm63 hm64 HBA.out.size ?_
      intro v' w1 hown hgr hne
      have hb1 := HBA.out.grown hgr HBA.out.size (by simp [Value.ownBlock])
      have hown2 : w1.ownsRow w.heap.size 73 2 v' m cs := by simpa using hown
      have hne2 : v' ≠ .slice none 0 0 := by simpa using hne
      obtain ⟨g, cap, rfl, h1, h2, h3, h4, h5⟩ := own_hd hown2 hne2
      have hvv := h5.vals
      have hgl := h5.lt
      clear hown hown2 hgr hne hne2
      go_wp2_with (fail)
      go_ret
      exact ⟨g, cap, rfl, h1, h2, h3, hvv, hgl, hb1⟩
end Go.Proofs.Ytkfjlgjncaddpaa
