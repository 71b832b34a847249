/- One more value at the end of a row of an own table, which stays apart; for MatchColumns. -/
import Derived.Test.YtncmfjncdhhjoaaTabW
import Derived.Test.YtncmfjncdhhjoaaMCl
namespace Go.Proofs.Ytncmfjncdhhjoaa
open Go.RowKit

theorem own_hd1 {B T : Nat} {w : World} {v : Value} {n : Nat} {vs : List Value} (h : w.ownsRow B T 1 v n vs) (hv : v ≠ .slice none 0 0) : ∃ g cap, v = .slice (some ⟨g, 0, none⟩) n cap ∧ B ≤ g ∧ cap ≤ maxLen ∧ n = vs.length ∧ Hd T w g cap vs := by
  obtain ⟨g, cap, e, hg, hn, hd⟩ := Hd.of_owns h hv
  rcases h.2 with ⟨h1, _⟩ | ⟨g', cap', cur, e', h1, h2, h3, h4, h5, h6⟩
  · exact absurd h1 hv
  · rw [e] at e'
    injection e' with e1 e2 e3
    subst e3
    exact ⟨g, cap, by rw [e, hn], hg, h4, hn, hd⟩
/-- A value more at the end of row i. -/
theorem Held.app {B : Nat} {w w2 : World} {tmp : Obj} {es : List (Value × List Int)} {i n g cap : Nat} {e : Value × List Int} {x : Int} {v' : Value} (h : Held B w (.slice (some ⟨g, 0, none⟩) n cap) es) (hi : es[i]? = some e) (he : e.1 ≠ .slice none 0 0)
    (hown : w2.ownsRow B 3 1 v' (e.2.length + 1) (is e.2 ++ [.int .i64 x])) (hg : (w.alloc tmp).grownBy w2 e.1.ownBlock) (hat : v'.ownBlock = e.1.ownBlock ∨ v'.ownBlock = some (w.alloc tmp).heap.size) :
    Held B (w2.setCell ⟨g, i, none⟩ v') (.slice (some ⟨g, 0, none⟩) n cap) (es.set i (v', e.2 ++ [x])) := by
  have hm := List.mem_of_getElem? hi
  have hil : i < es.length := (List.getElem?_eq_some_iff.1 hi).1
  obtain ⟨be, ce, ee, hbe, _, _, hde⟩ := own_hd1 (h.each e hm) he
  have hob : e.1.ownBlock = some be := by rw [ee]; rfl
  have hlt : be < w.heap.size := hde.lt
  have hgl : g < w.heap.size := (h.spine.lt g rfl).2
  have hneg : be ≠ g := fun e' => h.off e hm be hob (by rw [e']; rfl)
  have hold : ∀ b, b < w.heap.size → b ≠ be → w2.heap[b]? = w.heap[b]? := fun b h1 h2 => (hg.block b (by simp; omega) (by rw [hob]; intro e'; injection e' with e'; exact h2 e')).trans (((Below.refl w.heap.size w).alloc (Nat.le_refl _) tmp).block b h1)
  have hold2 : ∀ b, b < w.heap.size → b ≠ be → b ≠ g → (w2.setCell ⟨g, i, none⟩ v').heap[b]? = w.heap[b]? := fun b h1 h2 h3 => (heap_setCell_other w2 ⟨g, i, none⟩ b v' h3).trans (hold b h1 h2)
  have hsp := ownsRow_of (w' := w2) h.spine fun b hb => by
    have : b = g := by simp [Value.ownBlock] at hb; omega
    subst this
    exact hold b hgl (fun e' => hneg e'.symm)
  obtain ⟨g', cap', e', hBg, hcap, hn, hd⟩ := own_hd1 hsp (by simp)
  injection e' with e1 e2 e3
  injection e1 with e1
  injection e1 with e1
  subst e1 e3
  have hn2 : n = es.length := e2
  have hvb : ∀ b, v'.ownBlock = some b → b = be ∨ w.heap.size ≤ b := fun b hb => by
    rcases hat with hat | hat
    · rw [hat, hob] at hb; injection hb with hb; exact .inl hb.symm
    · rw [hat] at hb; injection hb with hb; simp at hb; exact .inr (by omega)
  have hvg : ∀ b, v'.ownBlock = some b → b ≠ g := fun b hb e' => by
    rcases hvb b hb with h1 | h1 <;> omega
  have cas : ∀ (r : Nat) f, (es.set i (v', e.2 ++ [x]))[r]? = some f → (r = i ∧ f = (v', e.2 ++ [x])) ∨ (r ≠ i ∧ es[r]? = some f) := fun r f hf => by
    by_cases hri : r = i
    · subst hri
      rw [List.getElem?_set_self hil] at hf
      injection hf with hf
      exact .inl ⟨rfl, hf.symm⟩
    · rw [List.getElem?_set_ne (fun e' => hri e'.symm)] at hf
      exact .inr ⟨hri, hf⟩
  refine ⟨?_, fun f hf => ?_, fun r s f f' b hr hs hfb hfb' => ?_, fun f hf b hb => ?_⟩
  · have := (hd.set (i := i) (by simpa using hil) v').owns hBg hcap
    rw [List.map_set]
    simpa [hn2] using this
  · obtain ⟨r, hr⟩ := List.getElem?_of_mem hf
    rcases cas r f hr with ⟨_, rfl⟩ | ⟨hri, hr'⟩
    · unfold OwnLs
      have := ownsRow_of (w' := w2.setCell ⟨g, i, none⟩ v') hown fun b hb => heap_setCell_other w2 ⟨g, i, none⟩ b v' (hvg b hb)
      simpa [is] using this
    · have hmf := List.mem_of_getElem? hr'
      exact ownsRow_of (h.each f hmf) fun b hb => hold2 b (h.lt hmf hb).2 (fun e' => hri (h.apart r i f e b hr' hi hb (by rw [e', hob]))) fun e' => h.off f hmf b hb (by rw [e']; rfl)
  · rcases cas r f hr with ⟨rfl, rfl⟩ | ⟨hri, hr'⟩ <;> rcases cas s f' hs with ⟨hsi, e5⟩ | ⟨hsi, hs'⟩
    · exact hsi.symm
    · exfalso
      have hmf := List.mem_of_getElem? hs'
      rcases hvb b hfb with h1 | h1
      · exact hsi (h.apart s r f' e b hs' hi hfb' (by rw [h1, hob]))
      · have := (h.lt hmf hfb').2; omega
    · exfalso
      subst e5
      have hmf := List.mem_of_getElem? hr'
      rcases hvb b hfb' with h1 | h1
      · exact hri (h.apart r i f e b hr' hi hfb (by rw [h1, hob]))
      · have := (h.lt hmf hfb).2; omega
    · exact h.apart r s f f' b hr' hs' hfb hfb'
  · obtain ⟨r, hr⟩ := List.getElem?_of_mem hf
    rcases cas r f hr with ⟨_, rfl⟩ | ⟨hri, hr'⟩
    · intro e'
      have := hvg b hb
      simp [Value.ownBlock] at e'
      omega
    · exact h.off f (List.mem_of_getElem? hr') b hb
/-- The table whose first i rows have one value more. -/
structure WdL (ts : List (List Int)) (f : Nat → Int) (i : Nat) (us : List (List Int)) : Prop where
  len : us.length = ts.length
  at_ : ∀ r l, ts[r]? = some l → us[r]? = some (if r < i then l ++ [f r] else l)
theorem WdL.start (ts : List (List Int)) (f : Nat → Int) : WdL ts f 0 ts := ⟨rfl, fun r l h => by rw [if_neg (by omega)]; exact h⟩
theorem WdL.next {ts us : List (List Int)} {f : Nat → Int} {i : Nat} {l : List Int} (h : WdL ts f i us) (hl : ts[i]? = some l) : WdL ts f (i + 1) (us.set i (l ++ [f i])) := by
  have hi : i < ts.length := (List.getElem?_eq_some_iff.1 hl).1
  refine ⟨by rw [List.length_set]; exact h.len, fun r k hk => ?_⟩
  rw [List.getElem?_set]
  by_cases e : i = r
  · subst e
    rw [hl] at hk
    injection hk with hk
    subst hk
    rw [if_pos rfl, if_pos (by rw [h.len]; exact hi), if_pos (by omega)]
  · rw [if_neg e, h.at_ r k hk]
    by_cases h1 : r < i
    · rw [if_pos h1, if_pos (by omega)]
    · rw [if_neg h1, if_neg (by omega)]
theorem WdL.row {ts us : List (List Int)} {f : Nat → Int} {i : Nat} {l : List Int} (h : WdL ts f i us) (hl : ts[i]? = some l) : us[i]? = some l := by
  have := h.at_ i l hl
  rwa [if_neg (by omega)] at this
theorem WdL.good {ts us : List (List Int)} {f : Nat → Int} {n m : Nat} (h : WdL ts f n us) (G : Good n m ts) (hf : ∀ r, r < n → -1 ≤ f r ∧ f r ≤ 1000000000) : Good n (m + 1) us ∧ ∀ r k, r < n → k < m → cst us r k = cst ts r k := by
  have hc : ∀ r k, r < n → k < m → cst us r k = cst ts r k := fun r k hr hk => by
    obtain ⟨l, hl, hlm⟩ := G.row hr
    have hu := h.at_ r l hl
    rw [if_pos hr] at hu
    rw [cst_of hu, cst_of hl, List.getD_eq_getElem?_getD, List.getElem?_append_left (by omega), ← List.getD_eq_getElem?_getD]
  refine ⟨⟨by rw [h.len]; exact G.rows, fun r u hu => ?_, fun r k hr hk => ?_⟩, hc⟩
  · have hr : r < n := by have := (List.getElem?_eq_some_iff.1 hu).1; rw [h.len, G.rows] at this; exact this
    obtain ⟨l, hl, hlm⟩ := G.row hr
    have hu' := h.at_ r l hl
    rw [if_pos hr, hu] at hu'
    injection hu' with hu'
    rw [hu', List.length_append, hlm]; rfl
  · by_cases hkm : k < m
    · rw [hc r k hr hkm]; exact G.rng r k hr hkm
    · obtain rfl : k = m := by omega
      obtain ⟨l, hl, hlm⟩ := G.row hr
      have hu := h.at_ r l hl
      rw [if_pos hr] at hu
      have : cst us r k = f r := by
        rw [cst_of hu, List.getD_eq_getElem?_getD, List.getElem?_append_right (by omega)]
        simp [hlm]
      rw [this]; exact hf r hr
theorem tbl_same (ls : List (List Int)) (R C : Nat) : tblL (tblL ls R C) R C = tblL ls R C := by
  simp [tblL, List.map_take, List.take_take, Function.comp_def]
theorem TW.moved {B : Nat} {w w' : World} {g cap n m : Nat} {rows : List Value} {gs cs : Nat → Nat} {C : Nat → Nat → Int} (h : TW B w g cap n m rows gs cs C) (hb : ∀ b, B ≤ b → b < w.heap.size → w'.heap[b]? = w.heap[b]?) : TW B w' g cap n m rows gs cs C := by
  have hd : ∀ {T x c vs}, B ≤ x → Hd T w x c vs → Hd T w' x c vs := fun hx ⟨rest, h1, h2⟩ => ⟨rest, h1, h2.of_block (hb _ hx h2.lt)⟩
  exact ⟨hd h.far.1 h.spine, h.num, h.at_, fun i hi => hd (h.far.2 i hi).1 (h.row i hi), h.far, h.apart⟩
end Go.Proofs.Ytncmfjncdhhjoaa
