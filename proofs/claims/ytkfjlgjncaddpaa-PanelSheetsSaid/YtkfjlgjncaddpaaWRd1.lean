/- The reader of plans: its small functions. -/
import Derived.Test.YtkfjlgjncaddpaaGr
import Derived.Test.YtkfjlgjncaddpaaWRec
import Derived.Test.YtkfjlgjncaddpaaWSaw
import Derived.Recover
namespace Go.Proofs.Ytkfjlgjncaddpaa
open Go.RowKit

/-- What a plan that is none panics with. -/
abbrev pnc : List PanicEntry := [{ v := .iface 92 (.agg #[]), recovered := false }]
theorem demand_t (w : World) : Calls Try.prog 48 #[.bool true] w fun e w' => e = .returned (.tuple #[]) ∧ w = w' := by
  go_enter Try.func48, Try.ntmps48
  go_wp2
  go_end0
  exact ⟨rfl, rfl⟩
theorem demand_f (w : World) : Calls Try.prog 48 #[.bool false] w fun e w' => e = .panicked pnc ∧ w = w' := by
  go_enter Try.func48, Try.ntmps48
  go_wp2
  exact ⟨rfl, rfl, rfl⟩
theorem results_cell1 {P : Program} {fn : Func} {p : Tmp} {ty : TypeId} (h : fn.results = #[.cell p ty]) (tmps : Array Value) (w : World) (g : Nat) (t : TypeId) (cs : List Value)
    (hp : tmps.getD p undef = .pointer (some ⟨g, 0, none⟩)) (hg : Blk t w g cs)
    (hu : (P.underlying ty).map (fun d => match d with | .struct _ | .array _ _ => true | _ => false) = some true) (hi : (P.info? ty).map (·.size) = some cs.length) :
    (results fn tmps).run P w = .ok (.agg cs.toArray) w := by
  obtain ⟨d, hd1, hm⟩ := Option.map_eq_some_iff.1 hu
  have hp' : tmps[p]?.getD undef = .pointer (some ⟨g, 0, none⟩) := by simpa using hp
  have h1 := run_loadVar_row (P := P) w g t ty cs.toArray (0, 0) d hg hd1 (by cases d <;> first | rfl | exact absurd hm (by simp)) (by simpa using hi)
  simp [results, h, hp', asAddr, h1]
theorem und73 : (Try.prog.underlying 73).map (fun d => match d with | .struct _ | .array _ _ => true | _ => false) = some true := by kernel_rfl
theorem size73 : (Try.prog.info? 73).map (·.size) = some 2 := by kernel_rfl
theorem und65 : (Try.prog.underlying 65).map (fun d => match d with | .struct _ | .array _ _ => true | _ => false) = some true := by kernel_rfl
theorem size65 : (Try.prog.info? 65).map (·.size) = some 4 := by kernel_rfl
/-- A piece. -/
structure Pc where
  x : Int
  y : Int
  w : Int
  h : Int
  s : Int
deriving DecidableEq
def pcC (t : Pc) : List Value := [.int .i64 t.x, .int .i64 t.y, .int .i64 t.w, .int .i64 t.h, .int .i64 t.s]
theorem pcC_len (t : Pc) : (pcC t).length = 5 := rfl
def pcs (l : List Pc) : List Value := l.flatMap pcC
theorem pcs_len (l : List Pc) : (pcs l).length = l.length * 5 := flat_len pcC_len l
theorem pcs_append (a b : List Pc) : pcs (a ++ b) = pcs a ++ pcs b := by simp [pcs]
theorem pcs_one (l : List Pc) : ∀ v ∈ pcs l, v.oneCell' = true := by
  intro v hv
  simp only [pcs, List.mem_flatMap, pcC, List.mem_cons, List.not_mem_nil, or_false] at hv
  obtain ⟨t, _, rfl | rfl | rfl | rfl | rfl⟩ := hv <;> rfl
/-- The reader in block p, its own rows behind it. -/
structure RdM (p : Nat) (w0 wr : World) (K : Int) (A : Option Addr) (L cp : Nat) (rest : List Cu) (vp : Value) (ps : List Pc) : Prop where
  bx : ∃ A' c', Blk 94 wr p [.int .i64 K, .slice A L cp, .slice A' rest.length c', vp] ∧ CuAt w0 A' rest ∧ rest.length ≤ c' ∧ (A' = none → c' = 0) ∧ c' ≤ maxLen
  own : wr.ownsRow (p + 1) 53 5 vp ps.length (pcs ps)
  bel : Below p w0 wr
  siz : w0.heap.size = p
/-- From w to w' only the reader and its row of pieces may have changed. -/
structure GrP (p : Nat) (v v' : Value) (w w' : World) : Prop where
  size : w.heap.size ≤ w'.heap.size
  blk : ∀ i, i < w.heap.size → i ≠ p → some i ≠ v.ownBlock → w'.heap[i]? = w.heap[i]?
  row : v'.ownBlock = v.ownBlock ∨ ∀ g, v'.ownBlock = some g → w.heap.size ≤ g
section
variable {p : Nat} {w0 w w' w1 w2 : World} {K : Int} {A : Option Addr} {L cp : Nat} {rest : List Cu} {vp v v1 v2 : Value} {ps : List Pc}
theorem RdM.lt (h : RdM p w0 w K A L cp rest vp ps) : p < w.heap.size := by
  obtain ⟨A', c', hb, _⟩ := h.bx
  exact hb.lt
theorem RdM.keep (h : RdM p w0 w K A L cp rest vp ps) (hb : Below w.heap.size w w') : RdM p w0 w' K A L cp rest vp ps := by
  have hp := h.lt
  obtain ⟨A', c', hx, hy⟩ := h.bx
  exact ⟨⟨A', c', hx.keep hb, hy⟩, own_keep h.own hb, below_on h.bel (Nat.le_of_lt hp) hb, h.siz⟩
theorem GrP.of_below (hb : Below w.heap.size w w') : GrP p v v w w' := ⟨hb.size, fun i hi _ _ => hb.block i hi, .inl rfl⟩
theorem GrP.trans (h : GrP p v v1 w w1) (k : GrP p v1 v2 w1 w2) : GrP p v v2 w w2 := by
  refine ⟨Nat.le_trans h.size k.size, fun i hi hp hne => ?_, ?_⟩
  · refine (k.blk i (Nat.lt_of_lt_of_le hi h.size) hp ?_).trans (h.blk i hi hp hne)
    rcases h.row with e | e
    · rw [e]; exact hne
    · intro e2
      have := e i e2.symm
      omega
  · rcases k.row with e | e
    · rw [e]; exact h.row
    · exact .inr fun g hg => Nat.le_trans h.size (e g hg)
theorem GrP.keepB (h : GrP p v v1 w w1) {T : TypeId} {g : Nat} {vs : List Value} (hb : Blk T w g vs) (hp : g ≠ p) (hne : some g ≠ v.ownBlock) : Blk T w1 g vs := by
  have hl := hb.lt
  unfold Blk at hb ⊢
  rw [h.blk g hl hp hne]
  exact hb
end
set_option maxHeartbeats 1000000 in
theorem next_nil {p : Nat} {w0 w : World} {K : Int} {A : Option Addr} {L cp : Nat} {vp : Value} {ps : List Pc} (h : RdM p w0 w K A L cp [] vp ps) :
    Calls Try.prog 58 #[.pointer (some ⟨p, 0, none⟩)] w fun e w' => e = .panicked pnc ∧ Below w.heap.size w w' := by
  have hb := below_new w (.cells #[.int .i64 0, .int .i64 0] 73)
  obtain ⟨A', c', hx, _⟩ := (h.keep hb).bx
  have f2 := hx.cell 2
  simp only [List.getElem?_cons_zero, List.getElem?_cons_succ, List.length_nil] at f2
  go_enter Try.func58, Try.ntmps58
  go_wp2_with (go_at_call 48; refine (demand_f _).mono ?_; rintro e w1 ⟨rfl, rfl⟩)
  exact ⟨rfl, rfl, hb⟩
theorem RdM.rest {p : Nat} {w0 w : World} {K : Int} {A : Option Addr} {L cp : Nat} {c : Cu} {rest : List Cu} {vp : Value} {ps : List Pc} {g off c' : Nat} {x : List Value} (h : RdM p w0 w K A L cp (c :: rest) vp ps)
    (hx : Blk 94 w p [.int .i64 K, .slice A L cp, .slice (some ⟨g, off, none⟩) (rest.length + 1) c', vp]) (hy : CuAt w0 (some ⟨g, off, none⟩) (c :: rest)) (hc : rest.length + 1 ≤ c') (hcm : c' ≤ maxLen) (A2 : Option Addr) (hA : (c' = 1 ∧ A2 = some ⟨g, off, none⟩) ∨ (¬ c' = 1 ∧ A2 = some ⟨g, off + 2, none⟩)) :
    RdM p w0 (((w.setCell ⟨p, 2, none⟩ (.slice A2 rest.length (c' - 1))).alloc (.cells x.toArray 73)).alloc (.cells x.toArray 73)) K A L cp rest vp ps ∧ GrP p vp vp w (((w.setCell ⟨p, 2, none⟩ (.slice A2 rest.length (c' - 1))).alloc (.cells x.toArray 73)).alloc (.cells x.toArray 73)) ∧ Below p w (((w.setCell ⟨p, 2, none⟩ (.slice A2 rest.length (c' - 1))).alloc (.cells x.toArray 73)).alloc (.cells x.toArray 73)) := by
  have hpl := h.lt
  have s0 : Below p w (w.setCell ⟨p, 2, none⟩ (.slice A2 rest.length (c' - 1))) := below_set (Below.refl _ _) (Nat.le_refl p) _
  have s1 : Below (w.setCell ⟨p, 2, none⟩ (.slice A2 rest.length (c' - 1))).heap.size (w.setCell ⟨p, 2, none⟩ (.slice A2 rest.length (c' - 1))) (((w.setCell ⟨p, 2, none⟩ (.slice A2 rest.length (c' - 1))).alloc (.cells x.toArray 73)).alloc (.cells x.toArray 73)) := ((Below.refl _ _).alloc (Nat.le_refl _) _).alloc (by simp) _
  have hz : (w.setCell ⟨p, 2, none⟩ (.slice A2 rest.length (c' - 1))).heap.size = w.heap.size := by simp
  have hvp : ∀ g, vp.ownBlock = some g → p + 1 ≤ g := own_ge h.own
  have ho : (w.setCell ⟨p, 2, none⟩ (.slice A2 rest.length (c' - 1))).ownsRow (p + 1) 53 5 vp ps.length (pcs ps) := by
    by_cases hv : vp = .slice none 0 0
    · have h1 := h.own
      subst hv
      obtain ⟨h1, ⟨_, h2⟩ | ⟨g, cap, cur, e, _⟩⟩ := h1
      · exact ⟨h1, .inl ⟨rfl, h2⟩⟩
      · injection e with e; cases e
    · obtain ⟨g', cap, e, h1, h3, h4, h5, h6⟩ := own_hd h.own hv
      exact hd_own ⟨g', cap, e, h1, h3, h4, h5, h6.setOther (a := ⟨p, 2, none⟩) (by show g' ≠ p; omega) _⟩
  have hr : RdM p w0 (w.setCell ⟨p, 2, none⟩ (.slice A2 rest.length (c' - 1))) K A L cp rest vp ps := by
    refine ⟨⟨A2, c' - 1, ?_, ?_, by omega, ?_, by omega⟩, ho, h.bel.trans s0, h.siz⟩
    · have := hx.set 2 (.slice A2 rest.length (c' - 1))
      simpa using this
    · rcases hA with ⟨h1, rfl⟩ | ⟨h1, rfl⟩
      · have : rest = [] := List.eq_nil_of_length_eq_zero (by omega)
        subst this
        exact Vals.nil
      · have := Vals.drop hy 2
        rw [show (cc (c :: rest)).drop 2 = cc rest from rfl] at this
        exact this
    · intro e
      rcases hA with ⟨h1, rfl⟩ | ⟨h1, rfl⟩ <;> cases e
  refine ⟨hr.keep s1, (show GrP p vp vp w _ from ⟨?_, fun i hi hp _ => ?_, .inl rfl⟩ : GrP p vp vp w (w.setCell ⟨p, 2, none⟩ (.slice A2 rest.length (c' - 1)))).trans (GrP.of_below s1), s0.trans (s1.mono (by rw [hz]; omega))⟩
  · exact Nat.le_of_eq hz.symm
  · exact heap_setCell_other w ⟨p, 2, none⟩ i _ hp
set_option maxHeartbeats 1000000 in
theorem next_cons {p : Nat} {w0 w : World} {K : Int} {A : Option Addr} {L cp : Nat} {c : Cu} {rest : List Cu} {vp : Value} {ps : List Pc} (h : RdM p w0 w K A L cp (c :: rest) vp ps) :
    Calls Try.prog 58 #[.pointer (some ⟨p, 0, none⟩)] w fun e w' => e = .returned (.agg #[.int .i64 c.k, .int .i64 c.a]) ∧ RdM p w0 w' K A L cp rest vp ps ∧ GrP p vp vp w w' ∧ Below p w w' := by
  have hb := below_new w (.cells #[.int .i64 0, .int .i64 0] 73)
  have hpl : p < w.heap.size := h.lt
  have hsz := h.siz
  have hh := h.keep hb
  obtain ⟨A', c', hx0, hy, hc, hnl, hcm⟩ := h.bx
  obtain ⟨g, off, rfl, hg, d0, d1⟩ := CuAt.at_ hy (i := 0) (by simp)
  have hx := hx0.keep hb
  simp only [Nat.zero_mul, Nat.add_zero, List.getD_cons_zero] at d0 d1
  have hgp : g < p := by omega
  have f2 := hx.cell 2
  have ff := hx.frozen 2
  simp only [List.getElem?_cons_zero, List.getElem?_cons_succ, List.length_cons] at f2
  have c0 := (hh.bel.cell (p := ⟨g, off, none⟩) hgp).trans d0
  have c1 := (hh.bel.cell (p := ⟨g, off + 1, none⟩) hgp).trans d1
  have hd : decide ((0 : Int) < (rest.length : Int) + 1) = true := by simp
  have HR := Lib.hid (fun A2 hA => h.rest (x := [.int .i64 c.k, .int .i64 c.a]) hx0 hy hc hcm A2 hA)
  have hblk : Hid (∀ A2, Blk 73 (((w.setCell ⟨p, 2, none⟩ (.slice A2 rest.length (c' - 1))).alloc (.cells #[.int .i64 c.k, .int .i64 c.a] 73)).alloc (.cells #[.int .i64 c.k, .int .i64 c.a] 73)) w.heap.size [.int .i64 c.k, .int .i64 c.a]) := Lib.hid fun A2 => by
    have := (Blk.new (w.setCell ⟨p, 2, none⟩ (.slice A2 rest.length (c' - 1))) 73 [.int .i64 c.k, .int .i64 c.a]).alloc (.cells #[.int .i64 c.k, .int .i64 c.a] 73)
    simpa using this
  clear h hh hx hx0 hb d0 d1 hnl hy hg hsz
  by_cases h1 : c' = 1
  · have h2 := HR.out (some ⟨g, off, none⟩) (.inl ⟨h1, rfl⟩)
    have h3 := hblk.out (some ⟨g, off, none⟩)
    have H2 := Lib.hid h2
    have H3 := Lib.hid h3
    subst h1
    clear h2 h3 HR hblk
    go_enter Try.func58, Try.ntmps58
    go_wp2_with (go_at_call 48; refine (demand_t _).mono ?_; rintro e w1 ⟨rfl, rfl⟩)
    exact bodyPost_ret (results_cell1 rfl _ _ _ _ _ rfl H3.out und73 size73) rfl ⟨rfl, H2.out⟩
  · have h2 := HR.out (some ⟨g, off + 2, none⟩) (.inr ⟨h1, rfl⟩)
    have h3 := hblk.out (some ⟨g, off + 2, none⟩)
    have H2 := Lib.hid h2
    have H3 := Lib.hid h3
    clear h2 h3 HR hblk
    go_enter Try.func58, Try.ntmps58
    go_wp2_with (go_at_call 48; refine (demand_t _).mono ?_; rintro e w1 ⟨rfl, rfl⟩)
    exact bodyPost_ret (results_cell1 rfl _ _ _ _ _ rfl H3.out und73 size73) rfl ⟨rfl, H2.out⟩
end Go.Proofs.Ytkfjlgjncaddpaa
