/- make and copy of elements of any number of cells, said of blocks that are known whole. -/
import Derived.Test.YtncmfjncdhhjoaaVals
import Derived.Laws.CopyOwn
import Derived.Laws.MakeOwn
namespace Go.Proofs.Ytncmfjncdhhjoaa
open Go.RowKit

theorem made_same (a : Value) (k m : Nat) (hk : 0 < k) : madeCells (Array.replicate k a) m = (List.replicate m a).toArray := by
  unfold madeCells
  apply Array.ext
  · simp
  · intro i h1 h2
    have : i % k < k := Nat.mod_lt _ hk
    simp [this]
/-- make, all of whose cells are a. -/
theorem run_make_same {P : Program} (t e : TypeId) (z a : Value) (k bytes : Nat) (ht : P.underlying t = some (.slice e)) (hinfo : (P.info? e).map (fun i => (i.zero, i.size, i.bytes)) = some (some z, k, bytes)) (hz : z.cells = Array.replicate k a) (hk : 0 < k)
    (n N : Nat) (hN : N = n * k) (hbytes : bytes * n ≤ 281474976710656) (h63 : n ≤ 9223372036854775807) (w : World) :
    (Instr.makeSlice t (.int .i64 (n : Int)) (.int .i64 (n : Int))).run P w = .ok (.slice (some ⟨w.heap.size, 0, none⟩) n n) (w.alloc (.cells (Array.replicate N a) e)) := by
  subst hN
  obtain ⟨i, hi, hzz⟩ := Option.map_eq_some_iff.1 hinfo
  simp only [Prod.mk.injEq] at hzz
  obtain ⟨h1, h2, h3⟩ := hzz
  have hb : (i.bytes : Int) * (n : Int) ≤ 281474976710656 := by
    have h : ((i.bytes * n : Nat) : Int) ≤ 281474976710656 := by rw [h3]; omega
    rwa [Int.natCast_mul] at h
  have hr := run_make (P := P) w t e i z ht hi h1 .i64 .i64 n n (by omega) (by omega) hb (by omega)
  simp only [Int.toNat_natCast] at hr
  rw [h2, hz, made_same a k _ hk] at hr
  simpa using hr

theorem run_copy_rowN {P : Program} (w : World) (dT sT ty elem : TypeId) (g o dLen dCap : Nat) (a : Addr) (sLen sCap k n : Nat) (cur : List Value) (t : TypeId) (cs : List Value)
    (hu : P.underlying dT = some (.slice elem)) (hs : (P.info? elem).map (·.size) = some k)
    (hg : w.heap[g]? = some (.cells cur.toArray t (0, 0))) (hn : n = Nat.min sLen dLen) (hc : cs.length = n * k)
    (hsrc : ∀ (j : Nat) (v : Value), cs[j]? = some v → w.cell? (a.add j) = some v) (hfit : o + cs.length ≤ cur.length) (h1 : ∀ v ∈ cs, v.oneCell' = true) :
    (Builtin.copy_ #[dT, sT] ty #[.slice (some ⟨g, o, none⟩) dLen dCap, .slice (some a) sLen sCap]).run P w =
      .ok (goInt n) (w.setRow g (cur.take o ++ cs ++ cur.drop (o + cs.length)).toArray) := by
  have hl := run_loadCells_list (P := P) w a cs hsrc
  have hst := run_storeCells_at P g o t cs 0 cur.toArray w hg (by simpa using hfit) h1
  cases hq : P.info? elem with
  | none => simp [hq] at hs
  | some i =>
    have hi : i.size = k := by simpa [hq] using hs
    rw [hc] at hl
    simp only [Nat.add_zero] at hst
    simp [Builtin.copy_, run_underlying hu, Builtin.lenOf, Builtin.firstCells, sizeOf, typeInfo, hq, hi, ← hn, hl, hst]

/-- The built-in copy into a block that is known whole. -/
theorem wpList_copyN {P : Program} {w : World} {ops : Array Oper} {rest : List Oper} {o : Oper} {a : Act} {Q : Exit → Act → World → Prop} (hgd : o.guard = none) (d s : Operand) (dT sT : TypeId)
    (ho : o.op = .call { callee := .builtin .copy, args := #[d, s], argTypes := #[dT, sT] }) (elem : TypeId) (hu : P.underlying dT = some (.slice elem)) (k : Nat) (hsz : (P.info? elem).map (·.size) = some k)
    (g off dLen dCap g' off' sLen sCap n : Nat) (hd : a.eval d = .slice (some ⟨g, off, none⟩) dLen dCap) (hs : a.eval s = .slice (some ⟨g', off', none⟩) sLen sCap)
    (cur : List Value) (t : TypeId) (hg : Blk t w g cur) (cs : List Value) (hn : n = Nat.min sLen dLen) (hc : cs.length = n * k)
    (hsrc : Vals w (some ⟨g', off', none⟩) cs) (hfit : off + cs.length ≤ cur.length) (h1 : ∀ v ∈ cs, v.oneCell' = true)
    (h : ∀ w', Blk t w' g (cur.take off ++ cs ++ cur.drop (off + cs.length)) → w.grownBy w' (some g) → wpList P ops Q rest (a.put o.dst (goInt n)) w') : wpList P ops Q (o :: rest) a w := by
  refine wpList_plain hgd fun K hK => ?_
  have hsrc' : ∀ (j : Nat) (v : Value), cs[j]? = some v → w.cell? ((⟨g', off', none⟩ : Addr).add j) = some v := by
    intro j v hv
    obtain ⟨g2, off2, e, _, hcell⟩ := hsrc (by have := (List.getElem?_eq_some_iff.1 hv).1; omega)
    injection e with e
    injection e with e1 e2
    subst e1 e2
    have := hcell j v hv
    unfold Addr.add
    split
    · rename_i h0; subst h0; exact this
    · exact this
  have hrun := run_copy_rowN (P := P) w dT sT o.type elem g off dLen dCap ⟨g', off', none⟩ sLen sCap k n cur t cs hu hsz hg hn hc hsrc' hfit h1
  unfold Oper.wp
  simp [execOp, ho, resolve, invoke, builtin, hd, hs, hrun, Result.andThen]
  refine hK _ _ (h _ ?_ ⟨rfl, rfl, rfl, by simp, fun i _ hne => setRow_other w g i _ (by rintro rfl; exact hne rfl)⟩)
  have := setRow_heap w g cur.toArray (cur.take off ++ cs ++ cur.drop (off + cs.length)).toArray t (0, 0) hg
  simpa [Blk] using this
/-- The same as one step of a region that draws its order. -/
theorem step_copyN {P : Program} {w : World} {ops : Array Oper} {o : Oper} {a : Act} {K : Act → World → Prop} {Q : Exit → Act → World → Prop} {E : Prop} (hgd : o.guard = none) (d s : Operand) (dT sT : TypeId)
    (ho : o.op = .call { callee := .builtin .copy, args := #[d, s], argTypes := #[dT, sT] }) (elem : TypeId) (hu : P.underlying dT = some (.slice elem)) (k : Nat) (hsz : (P.info? elem).map (·.size) = some k)
    (g off dLen dCap g' off' sLen sCap n : Nat) (hd : a.eval d = .slice (some ⟨g, off, none⟩) dLen dCap) (hs : a.eval s = .slice (some ⟨g', off', none⟩) sLen sCap)
    (cur : List Value) (t : TypeId) (hg : Blk t w g cur) (cs : List Value) (hn : n = Nat.min sLen dLen) (hc : cs.length = n * k)
    (hsrc : Vals w (some ⟨g', off', none⟩) cs) (hfit : off + cs.length ≤ cur.length) (h1 : ∀ v ∈ cs, v.oneCell' = true)
    (h : ∀ w', Blk t w' g (cur.take off ++ cs ++ cur.drop (off + cs.length)) → w.grownBy w' (some g) → K (a.put o.dst (goInt n)) w') :
    if Region.wanted o (yielded ops a.tmps) = true then Oper.wp P o a w K Q else E := by
  have hw : Region.wanted o (yielded ops a.tmps) = true := by simp [Region.wanted, hgd]
  rw [if_pos hw]
  have hsrc' : ∀ (j : Nat) (v : Value), cs[j]? = some v → w.cell? ((⟨g', off', none⟩ : Addr).add j) = some v := by
    intro j v hv
    obtain ⟨g2, off2, e, _, hcell⟩ := hsrc (by have := (List.getElem?_eq_some_iff.1 hv).1; omega)
    injection e with e
    injection e with e1 e2
    subst e1 e2
    have := hcell j v hv
    unfold Addr.add
    split
    · rename_i h0; subst h0; exact this
    · exact this
  have hrun := run_copy_rowN (P := P) w dT sT o.type elem g off dLen dCap ⟨g', off', none⟩ sLen sCap k n cur t cs hu hsz hg hn hc hsrc' hfit h1
  unfold Oper.wp
  simp [execOp, ho, resolve, invoke, builtin, hd, hs, hrun, Result.andThen]
  refine h _ ?_ ⟨rfl, rfl, rfl, by simp, fun i _ hne => setRow_other w g i _ (by rintro rfl; exact hne rfl)⟩
  have := setRow_heap w g cur.toArray (cur.take off ++ cs ++ cur.drop (off + cs.length)).toArray t (0, 0) hg
  simpa [Blk] using this
theorem is_one (l : List Int) : ∀ v ∈ is l, v.oneCell' = true := by
  intro v hv
  simp only [is, List.mem_map] at hv
  obtain ⟨x, _, rfl⟩ := hv
  rfl

/-- Block g is a row of cap cells of the call's own; its first are vs, of the others nothing is said. -/
def Hd (T : TypeId) (w : World) (g cap : Nat) (vs : List Value) : Prop := ∃ rest : List Value, vs.length + rest.length = cap ∧ Blk T w g (vs ++ rest)
namespace Hd
variable {T : TypeId} {w w' : World} {g cap : Nat} {vs : List Value}
theorem cell (h : Hd T w g cap vs) {i : Nat} {v : Value} (hv : vs[i]? = some v) : w.cell? ⟨g, i, none⟩ = some v := by
  obtain ⟨rest, _, hb⟩ := h
  rw [hb.cell, List.getElem?_append_left (List.getElem?_eq_some_iff.1 hv).1]
  exact hv
theorem frozen (h : Hd T w g cap vs) (i : Nat) : w.frozen? ⟨g, i, none⟩ = false := by obtain ⟨rest, _, hb⟩ := h; exact hb.frozen i
theorem lt (h : Hd T w g cap vs) : g < w.heap.size := by obtain ⟨rest, _, hb⟩ := h; exact hb.lt
theorem cap_le (h : Hd T w g cap vs) : vs.length ≤ cap := by obtain ⟨rest, h, _⟩ := h; omega
theorem keep (h : Hd T w g cap vs) (hb : Below w.heap.size w w') : Hd T w' g cap vs := by obtain ⟨rest, h1, h2⟩ := h; exact ⟨rest, h1, h2.keep hb⟩
theorem below {B : Nat} (h : Hd T w g cap vs) (hb : Below B w w') (hg : g < B) : Hd T w' g cap vs := by obtain ⟨rest, h1, h2⟩ := h; exact ⟨rest, h1, h2.below hb hg⟩
theorem drew (h : Hd T w g cap vs) : Hd T w.drew g cap vs := h
theorem drewN (h : Hd T w g cap vs) (n : Nat) : Hd T (w.drewN n) g cap vs := h
theorem alloc (h : Hd T w g cap vs) (o : Obj) : Hd T (w.alloc o) g cap vs := by obtain ⟨rest, h1, h2⟩ := h; exact ⟨rest, h1, h2.alloc o⟩
theorem grown {row : Option Nat} (h : Hd T w g cap vs) (hb : w.grownBy w' row) (hg : some g ≠ row) : Hd T w' g cap vs := by obtain ⟨rest, h1, h2⟩ := h; exact ⟨rest, h1, h2.grown hb hg⟩
theorem set (h : Hd T w g cap vs) {i : Nat} (hi : i < vs.length) (v : Value) : Hd T (w.setCell ⟨g, i, none⟩ v) g cap (vs.set i v) := by
  obtain ⟨rest, h1, h2⟩ := h
  refine ⟨rest, by rw [List.length_set]; exact h1, ?_⟩
  have := h2.set i v
  rwa [List.set_append_left _ _ hi] at this
theorem setOther (h : Hd T w g cap vs) {a : Addr} (ha : g ≠ a.block) (v : Value) : Hd T (w.setCell a v) g cap vs := by obtain ⟨rest, h1, h2⟩ := h; exact ⟨rest, h1, h2.setOther ha v⟩
theorem vals (h : Hd T w g cap vs) : Vals w (some ⟨g, 0, none⟩) vs := by
  intro _
  exact ⟨g, 0, rfl, h.lt, fun i v hv => by rw [Nat.zero_add]; exact h.cell hv⟩
theorem of_blk (h : Blk T w g vs) : Hd T w g vs.length vs := ⟨[], by simp, by simpa using h⟩
theorem of_owns {v : Value} {B n : Nat} (h : w.ownsRow B T 1 v n vs) (hv : v ≠ .slice none 0 0) : ∃ g cap, v = .slice (some ⟨g, 0, none⟩) vs.length cap ∧ B ≤ g ∧ n = vs.length ∧ Hd T w g cap vs := by
  have hn : n = vs.length := by have := h.1; omega
  subst hn
  rcases h.2 with ⟨h1, _⟩ | ⟨g, cap, cur, e, h1, h2, h3, h4, h5, h6⟩
  · exact absurd h1 hv
  · refine ⟨g, cap, e, h1, rfl, cur.toList.drop vs.length, ?_, ?_⟩
    · simp at h5 ⊢; omega
    · have e2 : vs ++ cur.toList.drop vs.length = cur.toList := by
        have h7 : cur.toList.take vs.length = vs := by simpa using h6
        conv => lhs; lhs; rw [← h7]
        exact List.take_append_drop _ _
      unfold Blk
      rw [e2]
      simpa using h2
theorem owns (h : Hd T w g cap vs) {B : Nat} (hB : B ≤ g) (hc : cap ≤ maxLen) : w.ownsRow B T 1 (.slice (some ⟨g, 0, none⟩) vs.length cap) vs.length vs := by
  obtain ⟨rest, h1, h2⟩ := h
  refine ⟨by simp, .inr ⟨g, cap, (vs ++ rest).toArray, rfl, hB, h2, by omega, hc, by simp; omega, by simp⟩⟩
end Hd
theorem own_empty (w : World) (T : TypeId) : (w.alloc (.cells #[] T)).ownsRow w.heap.size T 1 (.slice (some ⟨w.heap.size, 0, none⟩) 0 0) 0 [] :=
  ⟨rfl, .inr ⟨w.heap.size, 0, #[], rfl, Nat.le_refl _, heap_alloc_new _ _, Nat.le_refl _, by unfold maxLen; omega, rfl, rfl⟩⟩
theorem vals_cells {w : World} {ad : Addr} {vs : List Value} (h : Vals w (some ad) vs) : ∀ (j : Nat) (u : Value), vs[j]? = some u → w.cell? (ad.add j) = some u := by
  intro j u hu
  obtain ⟨g, off, e, _, hc⟩ := h (by have := (List.getElem?_eq_some_iff.1 hu).1; omega)
  injection e with e
  subst e
  have := hc j u hu
  unfold Addr.add
  split
  · rename_i h0; subst h0; exact this
  · exact this
end Go.Proofs.Ytncmfjncdhhjoaa
