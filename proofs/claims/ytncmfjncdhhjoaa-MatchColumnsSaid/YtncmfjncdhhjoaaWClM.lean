/- The memory of MatchColumns while the rows of 'wide' grow. -/
import Derived.Test.YtncmfjncdhhjoaaWApR
import Derived.Test.YtncmfjncdhhjoaaWOwT
namespace Go.Proofs.Ytncmfjncdhhjoaa
open Go.RowKit

/-- The value that row r gets. -/
def clF (vs : List Int) (r : Nat) : Int := if r < vs.length then bits .and .i64 (vs.getD r 0) 1023 - 1 else -1
theorem clF_rng (vs : List Int) (r : Nat) : -1 ≤ clF vs r ∧ clF vs r ≤ 1000000000 := by
  unfold clF
  split
  · obtain ⟨k, hk, e⟩ := and1023_ex (vs.getD r 0)
    rw [e]; omega
  · omega
structure ClM (Bw Bl : Nat) (w5 wr : World) (gw capw n m gl capl : Nat) (ew es : List (Value × List Int)) (ts : List (List Int)) (f : Nat → Int) (i : Nat) (rows : List Value) (gs cs : Nat → Nat) (C : Nat → Nat → Int) : Prop where
  held : Held Bw wr (.slice (some ⟨gw, 0, none⟩) n capw) es
  nn : ∀ x ∈ es, x.1 ≠ .slice none 0 0
  wd : WdL ts f i (es.map (·.2))
  old : ∀ r, i ≤ r → es[r]? = ew[r]?
  tw : TW Bl wr gl capl n m rows gs cs C
  bel : Below Bw w5 wr
  le : Bw ≤ gw ∧ gw < Bl
  low : ∀ e ∈ ew, ∀ b, e.1.ownBlock = some b → Bw ≤ b ∧ b < Bl
  ap : ∀ e ∈ es, ∀ b, e.1.ownBlock = some b → ∀ r, r < n → b ≠ gs r
section
variable {Bw Bl : Nat} {w5 wr : World} {gw capw n m gl capl : Nat} {ew es : List (Value × List Int)} {ts : List (List Int)} {f : Nat → Int} {i : Nat} {rows : List Value} {gs cs : Nat → Nat} {C : Nat → Nat → Int}
theorem ClM.drewN (h : ClM Bw Bl w5 wr gw capw n m gl capl ew es ts f i rows gs cs C) (z : Nat) : ClM Bw Bl w5 (wr.drewN z) gw capw n m gl capl ew es ts f i rows gs cs C :=
  ⟨h.held.kept (fun _ _ => rfl) (fun _ _ _ _ => rfl), h.nn, h.wd, h.old, h.tw.drewN z, below_drewN h.bel z, h.le, h.low, h.ap⟩
/-- What lies at row i. -/
theorem ClM.row (h : ClM Bw Bl w5 wr gw capw n m gl capl ew es ts f i rows gs cs C) (G : Good n m ts) (hi : i < n) :
    ∃ e be ce, es[i]? = some e ∧ e.1 = .slice (some ⟨be, 0, none⟩) m ce ∧ ts[i]? = some e.2 ∧ e.2.length = m ∧ wr.cell? ⟨gw, i, none⟩ = some (.slice (some ⟨be, 0, none⟩) m ce) ∧ wr.frozen? ⟨gw, i, none⟩ = false ∧ OwnLs Bw wr (.slice (some ⟨be, 0, none⟩) m ce) e.2 ∧ gw < wr.heap.size := by
  obtain ⟨l, hl, hlm⟩ := G.row hi
  have hu := h.wd.row hl
  rw [List.getElem?_map] at hu
  obtain ⟨e, he, rfl⟩ := Option.map_eq_some_iff.1 hu
  have hm := List.mem_of_getElem? he
  obtain ⟨be, ce, e1, _, _, _, _⟩ := own_hd1 (h.held.each e hm) (h.nn e hm)
  rw [hlm] at e1
  obtain ⟨g', cap', e2, _, _, _, hd⟩ := own_hd1 h.held.spine (by simp)
  injection e2 with e3 e4 e5
  injection e3 with e3
  injection e3 with e3
  subst e3
  refine ⟨e, be, ce, he, e1, hl, hlm, ?_, hd.frozen i, ?_, hd.lt⟩
  · rw [← e1]
    exact hd.cell (by rw [List.getElem?_map, he]; rfl)
  · rw [← e1]; exact h.held.each e hm
/-- The list of rows is as it was when the row has grown. -/
theorem ClM.still (h : ClM Bw Bl w5 wr gw capw n m gl capl ew es ts f i rows gs cs C) {e : Value × List Int} {tmp : Obj} {w2 : World} {be ce : Nat} (hi : es[i]? = some e) (he : e.1 = .slice (some ⟨be, 0, none⟩) m ce) (hg : (wr.alloc tmp).grownBy w2 (some be)) :
    w2.cell? ⟨gw, i, none⟩ = some (.slice (some ⟨be, 0, none⟩) m ce) ∧ w2.frozen? ⟨gw, i, none⟩ = false ∧ gw < w2.heap.size := by
  have hmem := List.mem_of_getElem? hi
  have hne : gw ≠ be := fun e' => h.held.off e hmem be (by rw [he]; rfl) (by rw [← e']; rfl)
  obtain ⟨g', cap', e2, _, _, _, hd⟩ := own_hd1 h.held.spine (by simp)
  injection e2 with e3 e4 e5
  injection e3 with e3
  injection e3 with e3
  subst e3
  have hd2 := (hd.alloc tmp).grown hg (fun e' => hne (by injection e'))
  exact ⟨by rw [← he]; exact hd2.cell (by rw [List.getElem?_map, hi]; rfl), hd2.frozen i, hd2.lt⟩
/-- Row i has grown. -/
theorem ClM.next (h : ClM Bw Bl w5 wr gw capw n m gl capl ew es ts f i rows gs cs C) {e : Value × List Int} {tmp : Obj} {w2 : World} {v' : Value} {be ce : Nat} (hi : es[i]? = some e) (he : e.1 = .slice (some ⟨be, 0, none⟩) m ce) (hl : ts[i]? = some e.2)
    (hown : w2.ownsRow Bw 3 1 v' (m + 1) (is e.2 ++ [.int .i64 (f i)])) (hg : (wr.alloc tmp).grownBy w2 (some be)) (hat : v'.ownBlock = some be ∨ v'.ownBlock = some (wr.alloc tmp).heap.size) (hm : e.2.length = m) (hnn : v' ≠ .slice none 0 0) :
    ∃ es', ClM Bw Bl w5 (w2.setCell ⟨gw, i, none⟩ v') gw capw n m gl capl ew es' ts f (i + 1) rows gs cs C := by
  have hne : e.1 ≠ .slice none 0 0 := by rw [he]; simp
  have hob : e.1.ownBlock = some be := by rw [he]; rfl
  have hil : i < es.length := (List.getElem?_eq_some_iff.1 hi).1
  have hmem := List.mem_of_getElem? hi
  have hbe : Bw ≤ be ∧ be < Bl := by
    rw [h.old i (Nat.le_refl _)] at hi
    exact h.low e (List.mem_of_getElem? hi) be hob
  refine ⟨es.set i (v', e.2 ++ [f i]), h.held.app hi hne (by rw [hm]; exact hown) (by rw [hob]; exact hg) (by rw [hob]; exact hat), fun x hx => ?_, ?_, fun r hr => ?_, h.tw.moved fun b hb hb2 => ?_, ?_, h.le, h.low, fun x hx b hb r hr => ?_⟩
  · rcases List.mem_or_eq_of_mem_set hx with hx | rfl
    · exact h.nn x hx
    · exact hnn
  · rw [List.map_set]; exact h.wd.next hl
  · rw [List.getElem?_set_ne (by omega)]; exact h.old r (by omega)
  · rw [heap_setCell_other w2 ⟨gw, i, none⟩ b v' (by have := h.le.2; show b ≠ gw; omega), hg.block b (by simp; omega) (by intro e'; injection e' with e'; omega)]
    exact ((Below.refl wr.heap.size wr).alloc (Nat.le_refl _) tmp).block b hb2
  · exact below_set ((h.bel.alloc (Nat.le_trans (by have := (h.held.spine.lt gw rfl); omega) (Nat.le_refl _)) tmp).grown hg (by have := (h.held.spine.lt gw rfl); simp; omega) fun k hk => by injection hk with hk; omega) h.le.1 _
  · rcases List.mem_or_eq_of_mem_set hx with hx | rfl
    · exact h.ap x hx b hb r hr
    · have hgr := (h.tw.row r hr).lt
      rcases hat with hat | hat
      · simp only at hb
        rw [hat] at hb
        injection hb with hb
        have := h.ap e hmem be hob r hr
        omega
      · simp only at hb
        rw [hat] at hb
        injection hb with hb
        simp at hb
        omega
/-- A cell of the other table is written. -/
theorem ClM.loose (h : ClM Bw Bl w5 wr gw capw n m gl capl ew es ts f i rows gs cs C) {r k : Nat} (hr : r < n) (hk : k < m) (x : Int) :
    Held Bw (wr.setCell ⟨gs r, k, none⟩ (.int .i64 x)) (.slice (some ⟨gw, 0, none⟩) n capw) es ∧ TW Bl (wr.setCell ⟨gs r, k, none⟩ (.int .i64 x)) gl capl n m rows gs cs (upd C r (upd (C r) k x)) ∧ Below Bw w5 (wr.setCell ⟨gs r, k, none⟩ (.int .i64 x)) := by
  have hgr := (h.tw.far.2 r hr).1
  have hle := h.le
  refine ⟨h.held.kept (fun b hb => heap_setCell_other wr ⟨gs r, k, none⟩ b _ ?_) (fun e he b hb => heap_setCell_other wr ⟨gs r, k, none⟩ b _ (h.ap e he b hb r hr)), h.tw.set hr hk x, below_set h.bel (by omega) _⟩
  have : b = gw := by simp [Value.ownBlock] at hb; omega
  show b ≠ gs r
  omega
end
/-- Both tables, when nothing more is written. -/
structure ClR (Bw Bl : Nat) (w5 wr : World) (gw capw n m gl capl : Nat) (es : List (Value × List Int)) (ts : List (List Int)) (rows : List Value) (gs cs : Nat → Nat) (C : Nat → Nat → Int) : Prop where
  held : Held Bw wr (.slice (some ⟨gw, 0, none⟩) n capw) es
  tw : TW Bl wr gl capl n m rows gs cs C
  bel : Below Bw w5 wr
  rng : ∀ a b, a < n → b < m → -1 ≤ C a b ∧ C a b ≤ 1000000000
  eq_ : ∀ a b, a < n → b < m → cst ts a b ≠ -1 → C a b = cst ts a b
theorem ClM.drew {Bw Bl : Nat} {w5 wr : World} {gw capw n m gl capl : Nat} {ew es : List (Value × List Int)} {ts : List (List Int)} {f : Nat → Int} {i : Nat} {rows : List Value} {gs cs : Nat → Nat} {C : Nat → Nat → Int}
    (h : ClM Bw Bl w5 wr gw capw n m gl capl ew es ts f i rows gs cs C) : ClM Bw Bl w5 wr.drew gw capw n m gl capl ew es ts f i rows gs cs C := h.drewN 1
theorem ClM.setR {Bw Bl : Nat} {w5 wr : World} {gw capw n m gl capl : Nat} {ew es : List (Value × List Int)} {ts : List (List Int)} {f : Nat → Int} {i : Nat} {rows : List Value} {gs cs : Nat → Nat}
    (h : ClM Bw Bl w5 wr gw capw n m gl capl ew es ts f i rows gs cs (cst ts)) (G : Good n m ts) {r k x : Nat} (hr : r < n) (hk : k < m) (hx : x ≤ 1023) (hn : cst ts r k < 0) :
    ClR Bw Bl w5 (wr.setCell ⟨gs r, k, none⟩ (.int .i64 (x : Int))) gw capw n m gl capl es ts rows gs cs (upd (cst ts) r (upd (cst ts r) k (x : Int))) := by
  obtain ⟨h1, h2, h3⟩ := h.loose hr hk (x : Int)
  have hm1 : cst ts r k = -1 := by have := (G.rng r k hr hk).1; omega
  refine ⟨h1, h2, h3, fun a b ha hb => ?_, fun a b ha hb hne => ?_⟩
  · by_cases e : a = r
    · subst e
      rw [upd_at]
      by_cases e : b = k
      · subst e; rw [upd_at]; omega
      · rw [upd_ne e]; exact G.rng a b ha hb
    · rw [upd_ne e]; exact G.rng a b ha hb
  · by_cases e : a = r
    · subst e
      rw [upd_at]
      by_cases e : b = k
      · subst e; exact absurd hm1 hne
      · rw [upd_ne e]
    · rw [upd_ne e]
theorem ClM.keepR {Bw Bl : Nat} {w5 wr : World} {gw capw n m gl capl : Nat} {ew es : List (Value × List Int)} {ts : List (List Int)} {f : Nat → Int} {i : Nat} {rows : List Value} {gs cs : Nat → Nat}
    (h : ClM Bw Bl w5 wr gw capw n m gl capl ew es ts f i rows gs cs (cst ts)) (G : Good n m ts) : ClR Bw Bl w5 wr gw capw n m gl capl es ts rows gs cs (cst ts) :=
  ⟨h.held, h.tw, h.bel, G.rng, fun _ _ _ _ _ => rfl⟩
theorem ClR.drew {Bw Bl : Nat} {w5 wr : World} {gw capw n m gl capl : Nat} {es : List (Value × List Int)} {ts : List (List Int)} {rows : List Value} {gs cs : Nat → Nat} {C : Nat → Nat → Int}
    (h : ClR Bw Bl w5 wr gw capw n m gl capl es ts rows gs cs C) : ClR Bw Bl w5 wr.drew gw capw n m gl capl es ts rows gs cs C :=
  ⟨h.held.kept (fun _ _ => rfl) (fun _ _ _ _ => rfl), h.tw.drewN 1, below_drewN h.bel 1, h.rng, h.eq_⟩
end Go.Proofs.Ytncmfjncdhhjoaa
