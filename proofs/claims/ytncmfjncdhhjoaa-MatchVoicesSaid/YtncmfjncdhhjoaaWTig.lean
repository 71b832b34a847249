/- The graph of tight columns; settle. -/
import Derived.Test.YtncmfjncdhhjoaaWPair
import Derived.Test.YtncmfjncdhhjoaaWIdx
import Derived.Test.YtncmfjncdhhjoaaWNewA
import Derived.Laws.EntriesVeiled
namespace Go.Proofs.Ytncmfjncdhhjoaa
open Go.RowKit

set_option maxHeartbeats 2000000 in
set_option maxRecDepth 100000 in
theorem tightC_any (B b p gu gv go n m cT q k : Nat) (A : Option Addr) (ls : List (List Int)) (u v o : Nat → Int) (w : World) (hc : w.cell? ⟨b, 0, none⟩ = some (.pointer (some ⟨p, 0, none⟩)))
    (hP : PrM B w p gu gv go (.slice A n cT) n m u v o) (G : Good n m ls) (T : Tab B w A ls) (hk : k < m)
    (hu : ∀ i, i < n → -10000000000000 ≤ u i ∧ u i ≤ 10000000000000) (hv : ∀ k, k < m → -10000000000000 ≤ v k ∧ v k ≤ 10000000000000) :
    Calls Try.prog 81 #[.int .i64 (q : Int), .int .i64 (k : Int), .pointer (some ⟨b, 0, none⟩)] w fun e w' => e = .returned (.bool (tightT n (cst ls) u v q k)) ∧ Below w.heap.size w w' := by
  have p0 : w.cell? ⟨p, 0, none⟩ = some (.slice A n cT) := hP.box.cell 0
  have p1 : w.cell? ⟨p, 1, none⟩ = some (.slice (some ⟨gu, 0, none⟩) n n) := hP.box.cell 1
  have p2 : w.cell? ⟨p, 2, none⟩ = some (.slice (some ⟨gv, 0, none⟩) m m) := hP.box.cell 2
  have cv := hP.cols.int hk
  have hvk := hv k hk
  by_cases hq : n ≤ q
  · have hd : decide ((n : Int) ≤ (q : Int)) = true := by simp; omega
    have he : tightT n (cst ls) u v q k = (v k == 0) := by unfold tightT; rw [if_pos hq]; rfl
    rw [he]
    clear he hP G T hu hv
    generalize v k = x at *
    go_enter Try.func81, Try.ntmps81
    go_wp2
    go_ret
    exact ⟨rfl, Below.refl _ _⟩
  · have hqn : q < n := by omega
    have hd : decide ((n : Int) ≤ (q : Int)) = false := by simp; omega
    obtain ⟨g, off, Ai, ci, rfl, hg, hrow, hcell⟩ := G.at_ T hqn
    obtain ⟨g2, off2, rfl, hg2, hcl⟩ := hcell (by omega)
    have hcc := hcl k hk
    have cu := hP.rows.int hqn
    have huk := hu q hqn
    have he : tightT n (cst ls) u v q k = (cst ls q k != -1 && decide (u q + v k = cst ls q k)) := by unfold tightT; rw [if_neg hq]
    rw [he]
    clear he hP G T hu hv hcl hcell hq
    generalize cst ls q k = x at *
    generalize v k = y at *
    generalize u q = z at *
    have w1 : IntKind.i64.wrap (z + y) = z + y := wrapI (by omega) (by omega)
    by_cases hx : x = -1
    · subst hx
      go_enter Try.func81, Try.ntmps81
      go_wp2_with (fail)
      go_quiet (fail)
      go_wp2
      go_ret
      exact ⟨by simp, below_drewN (Below.refl _ _) _⟩
    · have hxb : (x != -1) = true := by simpa using hx
      have hdd : decide (x = -1) = false := by simpa using hx
      go_enter Try.func81, Try.ntmps81
      go_wp2_with (fail)
      go_quiet (fail)
      go_wp2
      go_ret
      refine ⟨?_, below_drewN (Below.refl _ _) _⟩
      rw [hxb]
      rfl

theorem und87 : (Try.prog.underlying 87).map (fun d => match d with | .struct _ | .array _ _ => true | _ => false) = some true := by kernel_rfl
theorem size87 : (Try.prog.info? 87).map (·.size) = some 2 := by kernel_rfl
theorem graph_results {fn : Func} {w : World} {g k : Nat} {x y : Value} (h : Blk 87 w g [x, y]) (hr : fn.results = #[.cell k 87]) (tmps : Array Value) (hp : tmps.getD k undef = .pointer (some ⟨g, 0, none⟩)) :
    (results fn tmps).run Try.prog w = .ok (.agg #[x, y]) w := by
  obtain ⟨d, hd, hm⟩ := Option.map_eq_some_iff.1 und87
  cases d <;> first | exact results_cell_row hr tmps w g 87 _ (0, 0) _ hp h hd rfl size87 | exact absurd hm (by simp)

set_option maxRecDepth 100000 in
theorem tight_any (B p gu gv go n m : Nat) (C : Value) (u v o : Nat → Int) (w : World) (hP : PrM B w p gu gv go C n m u v o) :
    Calls Try.prog 74 #[.pointer (some ⟨p, 0, none⟩)] w fun e w' => ∃ b, e = .returned (.agg #[.int .i64 (m : Int), .func (.func 81) #[] #[.pointer (some ⟨b, 0, none⟩)]]) ∧
      w.heap.size ≤ b ∧ b < w'.heap.size ∧ w'.cell? ⟨b, 0, none⟩ = some (.pointer (some ⟨p, 0, none⟩)) ∧ Below w.heap.size w w' := by
  have p2 : w.cell? ⟨p, 2, none⟩ = some (.slice (some ⟨gv, 0, none⟩) m m) := hP.box.cell 2
  have hlt := hP.lt.1
  have hb1 : Blk 87 ((w.alloc (.cells #[.pointer (some ⟨p, 0, none⟩)] 74)).alloc (.cells #[.int .i64 (m : Int), .nilFunc] 87)) (w.heap.size + 1) [.int .i64 (m : Int), .nilFunc] := by
    have := Blk.new (w.alloc (.cells #[.pointer (some ⟨p, 0, none⟩)] 74)) 87 [.int .i64 (m : Int), .nilFunc]
    simpa using this
  have z1 : ((w.alloc (.cells #[.pointer (some ⟨p, 0, none⟩)] 74)).alloc (.cells #[.int .i64 (m : Int), .nilFunc] 87)).cell? ⟨w.heap.size + 1, 1, none⟩ = some .nilFunc := hb1.cell 1
  have z2 : ((w.alloc (.cells #[.pointer (some ⟨p, 0, none⟩)] 74)).alloc (.cells #[.int .i64 (m : Int), .nilFunc] 87)).frozen? ⟨w.heap.size + 1, 1, none⟩ = false := hb1.frozen 1
  clear hP hb1
  go_enter Try.func74, Try.ntmps74
  go_wp2
  have hbF : Blk 87 ((w.alloc (.cells #[.pointer (some ⟨p, 0, none⟩)] 74)).alloc (.cells #[.int .i64 (m : Int), .func (.func 81) #[] #[.pointer (some ⟨w.heap.size, 0, none⟩)]] 87)) (w.heap.size + 1) [.int .i64 (m : Int), .func (.func 81) #[] #[.pointer (some ⟨w.heap.size, 0, none⟩)]] := by
    have := Blk.new (w.alloc (.cells #[.pointer (some ⟨p, 0, none⟩)] 74)) 87 [.int .i64 (m : Int), .func (.func 81) #[] #[.pointer (some ⟨w.heap.size, 0, none⟩)]]
    simpa using this
  have hb0 : Blk 74 ((w.alloc (.cells #[.pointer (some ⟨p, 0, none⟩)] 74)).alloc (.cells #[.int .i64 (m : Int), .func (.func 81) #[] #[.pointer (some ⟨w.heap.size, 0, none⟩)]] 87)) w.heap.size [.pointer (some ⟨p, 0, none⟩)] := (Blk.new w 74 [_]).alloc _
  exact bodyPost_ret (graph_results hbF rfl _ rfl) rfl ⟨w.heap.size, rfl, Nat.le_refl _, hb0.lt, hb0.cell 0, ((Below.refl _ _).alloc (Nat.le_refl _) _).alloc (by simp) _⟩

set_option maxHeartbeats 4000000 in
set_option maxRecDepth 100000 in
theorem settle_any (L : List (Nat × List Value)) (B pp go gk gs m row : Nat) (cap : Value) (kp : Nat → Bool) (may : Nat → Nat → Bool) (w0 : World) (hm : m ≤ 64)
    (hmay : ∀ W, Below B w0 W → ∀ row k, True → k < m → Calls Try.prog 81 #[.int .i64 ((row : Nat) : Int), .int .i64 ((k : Nat) : Int), cap] W fun e w' => e = .returned (.bool (may row k)) ∧ Below W.heap.size W w')
    (o : Nat → Int) (s : Nat → Bool) (to : Nat → Nat) (w : World) (hw : Below B w0 w) (S : Setl m may o kp to row) (hrow : row < m)
    (hP : PaM L B w pp go gk gs (.func (.func 81) #[] #[cap]) m o kp s) :
    Calls Try.prog 75 #[.pointer (some ⟨pp, 0, none⟩), .int .i64 (row : Int)] w fun e w' =>
      ∃ o' s' z, e = .returned (.int .i64 ((z : Nat) : Int)) ∧ z < m ∧ Setl m may o' (upd kp z true) (upd to row z) (row + 1) ∧ PaM L B w' pp go gk gs (.func (.func 81) #[] #[cap]) m o' (upd kp z true) s' ∧ Below B w w' := by
  obtain ⟨c0, hc0, e0⟩ := S.perf.has hrow
  have hfar := hP.far
  have hidx := fun W h => index_any go m m c0 (row : Int) o W h hc0 (by omega) e0 (fun j hj e => by
    have := S.perf.inj j c0 (by omega) hc0 (e.trans e0.symm) (by omega)
    omega)
  have p2 : w.cell? ⟨pp, 2, none⟩ = some (.slice (some ⟨go, 0, none⟩) m m) := hP.box.cell 2
  have co := hP.own.int hc0
  have fo := hP.own.frozen c0
  have hP2 : PaM L B (w.setCell ⟨go, c0, none⟩ (.int .i64 (-1))) pp go gk gs (.func (.func 81) #[] #[cap]) m (upd o c0 (-1)) kp s := hP.setO c0 _
  have hl2 : Below B w (w.setCell ⟨go, c0, none⟩ (.int .i64 (-1))) := below_set (Below.refl _ _) (by omega) _
  have hdom : ∀ j, j < m → -1 ≤ upd o c0 (-1) j := fun j hj => by
    unfold upd; split
    · omega
    · obtain ⟨q, e, _⟩ := S.perf.dom j hj; omega
  have hfp := fun W h1 h2 => findPairT L B pp go gk gs m cap kp may (fun _ => True) w0 hm hmay row (upd o c0 (-1)) s W h1 trivial hdom (fun _ _ _ _ => trivial) h2
  have k2 : (w.setCell ⟨go, c0, none⟩ (.int .i64 (-1))).drew.cell? ⟨pp, 2, none⟩ = some (.slice (some ⟨go, 0, none⟩) m m) := hP2.box.cell 2
  have HX := Lib.hid hidx
  have HP := Lib.hid hP
  have HP2 := Lib.hid hP2
  have HL2 := Lib.hid hl2
  have HFP := Lib.hid hfp
  have HS := Lib.hid S
  have HE0 := Lib.hid e0
  clear hidx hP hP2 hl2 hdom hfp S hmay e0
  go_enter Try.func75, Try.ntmps75
  go_wp2_with (fail)
  go_region_held3 (fun w' => w'.cell? ⟨pp, 2, none⟩ = some (.slice (some ⟨go, 0, none⟩) m m)) (first | exact p2 | exact k2 | go_keep)
    ((go_at_call 82; (with_reducible refine (HX.out _ HP.out.own.drew).mono ?_); rintro e w1 ⟨rfl, rfl⟩))
  have HP3 : PaM L B (w.setCell ⟨go, c0, none⟩ (.int .i64 (-1))).drew pp go gk gs (.func (.func 81) #[] #[cap]) m (upd o c0 (-1)) kp s := HP2.out.drew
  have hl3 : Below B w (w.setCell ⟨go, c0, none⟩ (.int .i64 (-1))).drew := HL2.out.drew
  have HC := Lib.hid (HFP.out _ (hw.trans hl3) HP3)
  clear HP3
  generalize (w.setCell ⟨go, c0, none⟩ (.int .i64 (-1))).drew = W at *
  go_wp2_with (fail)
  refine (HC.out).mono ?_
  rintro e w2 ⟨b, o', s', rfl, hroom, hP4, hl4⟩
  obtain ⟨hb, z, hz, hoz, hS2⟩ := HS.out.step hrow hc0 HE0.out hroom
  have hidx2 := index_any go m m z (row : Int) o' w2 hP4.own hz (by omega) hoz (fun j hj e => by
    have := hS2.perf.inj j z (by omega) hz (e.trans hoz.symm) (by omega)
    omega)
  have q2 : w2.cell? ⟨pp, 2, none⟩ = some (.slice (some ⟨go, 0, none⟩) m m) := hP4.box.cell 2
  have q3 : w2.cell? ⟨pp, 3, none⟩ = some (.slice (some ⟨gk, 0, none⟩) m m) := hP4.box.cell 3
  have ck := hP4.kept.bool hz
  have fk := hP4.kept.frozen z
  have hP5 : PaM L B (w2.setCell ⟨gk, z, none⟩ (.bool true)) pp go gk gs (.func (.func 81) #[] #[cap]) m o' (upd kp z true) s' := hP4.setK z true
  have hl5 : Below B w (w2.setCell ⟨gk, z, none⟩ (.bool true)) := below_set (hl3.trans hl4) (by omega) _
  have HX2 := Lib.hid hidx2
  have HP5 := Lib.hid hP5
  have HS2 := Lib.hid hS2
  clear hidx2 hP5 hS2 hP4 hroom hoz hb
  go_wp2_with (go_at_call 82; refine (HX2.out).mono ?_; rintro e w3 ⟨rfl, rfl⟩)
  go_ret
  exact ⟨o', s', z, rfl, hz, HS2.out, HP5.out, hl5⟩

end Go.Proofs.Ytncmfjncdhhjoaa
