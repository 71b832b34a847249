/- append(append([]api.Tie{}, t...), more) within a region that draws its order. -/
import Derived.Test.YtpaemlkikkcjiaaWLst
import Derived.Deep.AppendLies
import Derived.Deep.RegionHeld3
import Derived.Deep.RegionHeldLaw
namespace Go.Proofs.Ytpaemlkikkcjiaa
open Go.RowKit

theorem step_own {P : Program} {ops : Array Oper} {o : Oper} {a : Act} {w : World} {K : Act → World → Prop} {Q : Exit → Act → World → Prop} {E : Prop} (hw : Region.wanted o (yielded ops a.tmps) = true) (s x : Operand) (t : TypeId)
    (ho : o.op = .call { callee := .builtin .append, args := #[s, x], argTypes := #[t, t] })
    (base : Nat) (e : TypeId) (i : TypeInfo) (z : Value) (size bytes : Nat) (ht : P.underlying t = some (.slice e)) (hi : P.info? e = some i) (hz : i.zero = some z)
    (hsize : i.size = size) (hby : i.bytes = bytes) (hzs : z.cells.size = size) (hsz : 0 < size)
    (v : Value) (n : Nat) (xs : List Value) (hs : a.eval s = v) (hown : w.ownsRow base e size v n xs)
    (ad : Addr) (m c : Nat) (news : List Value) (hx : a.eval x = .slice (some ad) m c) (hl : news.length = m * size) (hnews : ∀ j u, news[j]? = some u → w.cell? (ad.add j) = some u) (h1 : ∀ u ∈ news, u.oneCell' = true)
    (h63 : n + m ≤ maxLen) (hbytes : (n + m) * bytes ≤ 140737488355328) (hbase : base ≤ w.heap.size)
    (h : ∀ v' w', w'.ownsRow base e size v' (n + m) (xs ++ news) → w.grownBy w' v.ownBlock → (v' = .slice none 0 0 ↔ v = .slice none 0 0 ∧ m = 0) → K (a.put o.dst v') w') :
    if Region.wanted o (yielded ops a.tmps) = true then Oper.wp P o a w K Q else E := by
  rw [if_pos hw]
  exact wp_append_own w s x t ho base e i z size bytes ht hi hz hsize hby hzs hsz v n xs hs hown ad m c news hx hl hnews h1 h63 hbytes hbase h

theorem least_or_none {n : Nat} {M : Int} {ts : List T3} (ho : OkL n M ts) (hM : 0 ≤ M) : (∃ x, Least n ts x) ∨ ∀ x, ¬ Sol n ts x := by
  cases h : (rnds (teL (allT n ts)) (n + 1)).r with
  | none => exact .inl ⟨_, (prog_least ho hM h).2⟩
  | some p => exact .inr (prog_none ho hM h).2.1
theorem reg_least (k : Nat) (ad : Addr) (c L : Nat) (ts : List T3) (x : Nat → Int) (w : World) (hA : TiesAt w (some ad) ts) (hL : L = ts.length) (hLs : L ≤ 1000) (hr : regB (k : Int) ts = true) (hk : k ≤ 64) (hx : Least k ts x) :
    Calls Try.prog 24 #[.int .i64 (k : Int), .slice (some ad) L c] w fun e w' => ∃ y g cap, e = .returned (.tuple #[.slice (some ⟨g, 0, none⟩) k cap, .int .i64 0]) ∧ Vals w' (some ⟨g, 0, none⟩) (fl y k) ∧ Least k ts y ∧ Below w.heap.size w w' := by
  refine (regulate_any (k : Int) ad c L ts w hA hL (by omega) hLs).mono ?_
  rintro e w' ⟨hb, ⟨h, _⟩ | ⟨j, hj, _, _, _, ⟨y, v, hle, _, rfl, hv⟩ | ⟨hno, _⟩⟩⟩
  · rw [hr] at h; cases h
  · obtain rfl : j = k := by omega
    obtain ⟨g, cap, rfl, hvy, _⟩ := reg_x_le hv
    exact ⟨y, g, cap, rfl, hvy, hle, hb⟩
  · obtain rfl : j = k := by omega
    exact absurd hx.sol (hno x)
theorem reg_none (k : Nat) (ad : Addr) (c L : Nat) (ts : List T3) (w : World) (hA : TiesAt w (some ad) ts) (hL : L = ts.length) (hLs : L ≤ 1000) (hr : regB (k : Int) ts = true) (hk : k ≤ 64) (hx : ∀ x, ¬ Sol k ts x) :
    Calls Try.prog 24 #[.int .i64 (k : Int), .slice (some ad) L c] w fun e w' => e = .returned (.tuple #[.slice none 0 0, .int .i64 6]) ∧ Below w.heap.size w w' := by
  refine (regulate_any (k : Int) ad c L ts w hA hL (by omega) hLs).mono ?_
  rintro e w' ⟨hb, ⟨h, _⟩ | ⟨j, hj, _, _, _, ⟨y, v, hle, _, _, _⟩ | ⟨_, rfl⟩⟩⟩
  · rw [hr] at h; cases h
  · obtain rfl : j = k := by omega
    exact absurd hle.sol (hx y)
  · exact ⟨rfl, hb⟩

/-- What stands in the worlds of such a region. -/
structure A2 (W0 : World) (g b5 : Nat) (ts : List T3) (m : T3) (W : World) : Prop where
  bel : Below W0.heap.size W0 W
  row : TiesAt W (some ⟨g, 0, none⟩) ts
  box : W.cell? ⟨b5, 0, none⟩ = some (.int .i64 m.a) ∧ W.cell? ⟨b5, 1, none⟩ = some (.int .i64 m.b) ∧ W.cell? ⟨b5, 2, none⟩ = some (.int .i64 m.l)
theorem A2.keep {W0 W W' : World} {g b5 : Nat} {ts : List T3} {m : T3} (h : A2 W0 g b5 ts m W) (hb : Below W.heap.size W W') (h5 : b5 < W0.heap.size) : A2 W0 g b5 ts m W' := by
  have hlt : b5 < W.heap.size := Nat.lt_of_lt_of_le h5 h.bel.size
  exact ⟨below_on h.bel h.bel.size hb, h.row.keep hb, (hb.cell (p := ⟨b5, 0, none⟩) hlt).trans h.box.1, (hb.cell (p := ⟨b5, 1, none⟩) hlt).trans h.box.2.1, (hb.cell (p := ⟨b5, 2, none⟩) hlt).trans h.box.2.2⟩
theorem own_emp (W : World) (B : Nat) (hB : B ≤ W.heap.size) : (W.alloc (.cells #[] 39)).ownsRow B 39 3 (.slice (some ⟨W.heap.size, 0, none⟩) 0 0) 0 [] :=
  ⟨by simp, .inr ⟨W.heap.size, 0, #[], rfl, hB, heap_alloc_new _ _, Nat.le_refl _, by unfold maxLen; omega, by simp, by simp⟩⟩
theorem own_keep {B T k : Nat} {w w' : World} {v : Value} {n : Nat} {vs : List Value} (h : w.ownsRow B T k v n vs) (hb : Below w.heap.size w w') : w'.ownsRow B T k v n vs := by
  by_cases hv : v = .slice none 0 0
  · subst hv
    obtain ⟨h1, ⟨_, h2⟩ | ⟨g, cap, cur, e, _⟩⟩ := h
    · exact ⟨h1, .inl ⟨rfl, h2⟩⟩
    · injection e with e; cases e
  · exact hd_own ((own_hd h hv).keep hb)
theorem el_vals (W : World) (m : T3) : Vals (W.alloc (.cells #[.int .i64 m.a, .int .i64 m.b, .int .i64 m.l] 39)) (some ⟨W.heap.size, 0, none⟩) (tieC m) := (Blk.new W 39 (tieC m)).vals0
theorem tieC_one (m : T3) : ∀ u ∈ tieC m, u.oneCell' = true := by
  intro u hu
  simp [tieC] at hu
  rcases hu with rfl | rfl | rfl <;> rfl
end Go.Proofs.Ytpaemlkikkcjiaa
