/- raise: the prices change such that a column can be reached without a loss. -/
import Derived.Test.YtncmfjncdhhjoaaWWid
import Derived.Test.YtncmfjncdhhjoaaMRaise
namespace Go.Proofs.Ytncmfjncdhhjoaa
open Go.RowKit

theorem PrM.drewN {B : Nat} {w : World} {p gu gv go : Nat} {cost : Value} {n m : Nat} {u v o : Nat → Int} (h : PrM B w p gu gv go cost n m u v o) (k : Nat) : PrM B (w.drewN k) p gu gv go cost n m u v o :=
  ⟨h.box, h.rows, h.cols, h.own, h.far⟩
theorem PrM.drew {B : Nat} {w : World} {p gu gv go : Nat} {cost : Value} {n m : Nat} {u v o : Nat → Int} (h : PrM B w p gu gv go cost n m u v o) : PrM B w.drew p gu gv go cost n m u v o :=
  ⟨h.box, h.rows, h.cols, h.own, h.far⟩
theorem ReM.drew {B : Nat} {w : World} {q ga gf gd m : Nat} {a f : Nat → Int} {d : Nat → Bool} (h : ReM B w q ga gf gd m a f d) : ReM B w.drew q ga gf gd m a f d :=
  ⟨h.box, h.away, h.from_, h.done, h.far⟩
theorem PrM.setU {B : Nat} {w : World} {p gu gv go : Nat} {cost : Value} {n m : Nat} {u v o : Nat → Int} (h : PrM B w p gu gv go cost n m u v o) (k : Nat) (x : Int) :
    PrM B (w.setCell ⟨gu, k, none⟩ (.int .i64 x)) p gu gv go cost n m (upd u k x) v o := by
  obtain ⟨_, _, _, _, e1, e2, e3, e4, e5, e6⟩ := h.far
  exact ⟨h.box.setOther (a := ⟨gu, k, none⟩) e1 _, h.rows.setI k x, h.cols.setOther (a := ⟨gu, k, none⟩) (Ne.symm e4) _, h.own.setOther (a := ⟨gu, k, none⟩) (Ne.symm e5) _, h.far⟩
theorem PrM.setV {B : Nat} {w : World} {p gu gv go : Nat} {cost : Value} {n m : Nat} {u v o : Nat → Int} (h : PrM B w p gu gv go cost n m u v o) (k : Nat) (x : Int) :
    PrM B (w.setCell ⟨gv, k, none⟩ (.int .i64 x)) p gu gv go cost n m u (upd v k x) o := by
  obtain ⟨_, _, _, _, e1, e2, e3, e4, e5, e6⟩ := h.far
  exact ⟨h.box.setOther (a := ⟨gv, k, none⟩) e2 _, h.rows.setOther (a := ⟨gv, k, none⟩) e4 _, h.cols.setI k x, h.own.setOther (a := ⟨gv, k, none⟩) (Ne.symm e6) _, h.far⟩
theorem PrM.setO {B : Nat} {w : World} {p gu gv go : Nat} {cost : Value} {n m : Nat} {u v o : Nat → Int} (h : PrM B w p gu gv go cost n m u v o) (k : Nat) (x : Int) :
    PrM B (w.setCell ⟨go, k, none⟩ (.int .i64 x)) p gu gv go cost n m u v (upd o k x) := by
  obtain ⟨_, _, _, _, e1, e2, e3, e4, e5, e6⟩ := h.far
  exact ⟨h.box.setOther (a := ⟨go, k, none⟩) e3 _, h.rows.setOther (a := ⟨go, k, none⟩) e5 _, h.cols.setOther (a := ⟨go, k, none⟩) e6 _, h.own.setI k x, h.far⟩
theorem ReM.other {B : Nat} {w : World} {q ga gf gd m : Nat} {a f : Nat → Int} {d : Nat → Bool} (h : ReM B w q ga gf gd m a f d) {g : Nat} (hg : g < B) (k : Nat) (x : Value) :
    ReM B (w.setCell ⟨g, k, none⟩ x) q ga gf gd m a f d := by
  obtain ⟨h1, h2, h3, h4, _⟩ := h.far
  exact ⟨h.box.setOther (a := ⟨g, k, none⟩) (by show q ≠ g; omega) _, h.away.setOther (a := ⟨g, k, none⟩) (by show ga ≠ g; omega) _,
    h.from_.setOther (a := ⟨g, k, none⟩) (by show gf ≠ g; omega) _, h.done.setOther (a := ⟨g, k, none⟩) (by show gd ≠ g; omega) _, h.far⟩

set_option maxHeartbeats 2000000 in
set_option maxRecDepth 100000 in
theorem raise_any (B B1 p gu gv go q ga gf gd n m r : Nat) (C : Value) (u v o d f : Nat → Int) (dn : Nat → Bool) (A : Int) (w : World)
    (hP : PrM B w p gu gv go C n m u v o) (hp : p < B1 ∧ gu < B1 ∧ gv < B1 ∧ go < B1) (R : ReM B1 w q ga gf gd m d f dn)
    (hr : r < n) (hm : m ≤ 64) (_hn : n ≤ 64) (hi : Inj m o) (ho : ∀ j, j < m → dn j = true → ∃ i : Nat, i < n ∧ o j = (i : Int))
    (hu : ∀ i, i < n → -1000000000000000 ≤ u i ∧ u i ≤ 1000000000000000) (hv : ∀ k, k < m → -1000000000000000 ≤ v k ∧ v k ≤ 1000000000000000)
    (hd : ∀ k, k < m → dn k = true → 0 ≤ d k ∧ d k ≤ 1000000000000000) (hA : 0 ≤ A ∧ A ≤ 1000000000000000) :
    Calls Try.prog 72 #[.pointer (some ⟨p, 0, none⟩), .pointer (some ⟨q, 0, none⟩), .int .i64 (r : Int), .int .i64 A] w fun e w' => (∃ x, e = .returned x) ∧
      PrM B w' p gu gv go C n m (raU o dn d A (upd u r (u r + A)) m) (raV dn d A v) o ∧ ReM B1 w' q ga gf gd m d f dn ∧ Below B w w' := by
  obtain ⟨hp1, hp2, hp3, hp4⟩ := hp
  have hB2 := hP.far.2.1
  have hB3 := hP.far.2.2.1
  have p1 : w.cell? ⟨p, 1, none⟩ = some (.slice (some ⟨gu, 0, none⟩) n n) := hP.box.cell 1
  have cu := hP.rows.int hr
  have fu := hP.rows.frozen
  have hu0 := hu r hr
  have w1 : IntKind.i64.wrap (u r + A) = u r + A := wrapI (by omega) (by omega)
  have hP0 := hP.setU r (u r + A)
  have hR0 := R.other hp2 r (.int .i64 (u r + A))
  have hb0 : Below B w (w.setCell ⟨gu, r, none⟩ (.int .i64 (u r + A))) := below_set (Below.refl _ _) hB2 _
  have hUb : ∀ i, i < n → -2000000000000000 ≤ upd u r (u r + A) i ∧ upd u r (u r + A) i ≤ 2000000000000000 := by
    intro i hi
    have := hu i hi
    unfold upd; split <;> omega
  have q2 : w.cell? ⟨q, 2, none⟩ = some (.slice (some ⟨gd, 0, none⟩) m m) := R.box.cell 2
  have hq := R.far
  have e1 : q ≠ gu := by omega
  have hor : ∀ j, j < m → dn j = true → ∃ i : Nat, o j = (i : Int) := fun j hj h => by obtain ⟨i, _, e⟩ := ho j hj h; exact ⟨i, e⟩
  have HO := Lib.hid ho
  have HOR := Lib.hid hor
  have HI := Lib.hid hi
  have HUB := Lib.hid hUb
  have HV := Lib.hid hv
  have HD := Lib.hid hd
  have HP0 := Lib.hid hP0
  have HR0 := Lib.hid hR0
  clear ho hor hi hUb hv hd hP0 hR0 hP R hu hu0
  generalize hU0 : upd u r (u r + A) = u0 at *
  have HU0 := Lib.hid hU0
  clear hU0
  generalize u r = ur at *
  go_enter Try.func72, Try.ntmps72
  go_wp2_with (fail)
  clear p1 cu fu w1 q2
  go_loopw [8, 9, 25] (fun _ _ t wr => ∃ k : Nat, k ≤ m ∧ t = .int .i64 (k : Int) ∧ PrM B wr p gu gv go C n m (raU o dn d A u0 k) (parI k (raV dn d A v) v) o ∧ ReM B1 wr q ga gf gd m d f dn ∧ Below B w wr) (fun _ _ t _ => m - (intOf t).toNat)
  case atStart => exact ⟨0, Nat.zero_le _, rfl, by rw [parI_zero]; exact HP0.out, HR0.out, hb0⟩
  case round =>
    clear HP0 HR0 hb0
    obtain ⟨k, hk, rfl, hP, hR, hb⟩ := hrel
    by_cases hlt : k < m
    · have cd := hR.done.bool hlt
      cases hdn : dn k with
      | false =>
        rw [hdn] at cd
        have hP2 : PrM B wr p gu gv go C n m (raU o dn d A u0 (k + 1)) (parI (k + 1) (raV dn d A v) v) o := by
          rw [parI_same (show raV dn d A v k = v k by unfold raV; rw [hdn]; rfl)]
          have : raU o dn d A u0 (k + 1) = raU o dn d A u0 k := by simp only [raU]; rw [hdn]; rfl
          rw [this]; exact hP
        have HP2 := Lib.hid hP2
        clear hP2 hdn
        go_wp2
        go_roundw
        case rel => exact ⟨k + 1, by omega, by go_num, HP2.out, hR, hb⟩
        case measure => simp [intOf]; omega
      | true =>
        rw [hdn] at cd
        obtain ⟨i, hin, hoi⟩ := HO.out k hlt hdn
        have hx := raU_before (d := d) (A := A) (u0 := u0) HI.out HOR.out hlt hoi
        have hub := HUB.out i hin
        have hdk := HD.out k hlt hdn
        have hvk := HV.out k hlt
        have hP2 : ∀ W, PrM B W p gu gv go C n m (upd (raU o dn d A u0 k) i (u0 i + (A - d k))) (upd (parI k (raV dn d A v) v) k (v k - (A - d k))) o → PrM B W p gu gv go C n m (raU o dn d A u0 (k + 1)) (parI (k + 1) (raV dn d A v) v) o := by
          intro W h
          rw [parI_upd (show raV dn d A v k = v k - (A - d k) by unfold raV; rw [hdn]; rfl)] at h
          have : raU o dn d A u0 (k + 1) = upd (raU o dn d A u0 k) i (u0 i + (A - d k)) := by simp only [raU]; rw [hdn, hoi, if_pos rfl]; simp only [Int.toNat_natCast]; rw [hx]
          rw [this]; exact h
        have p1 : wr.cell? ⟨p, 1, none⟩ = some (.slice (some ⟨gu, 0, none⟩) n n) := hP.box.cell 1
        have p3 : wr.cell? ⟨p, 3, none⟩ = some (.slice (some ⟨go, 0, none⟩) m m) := hP.box.cell 3
        have q0 : wr.cell? ⟨q, 0, none⟩ = some (.slice (some ⟨ga, 0, none⟩) m m) := hR.box.cell 0
        have co := hP.own.int hlt
        have cu := hP.rows.int hin
        have ca := hR.away.int hlt
        have fu := hP.rows.frozen
        rw [hoi] at co
        rw [hx] at cu
        have hin2 : (i : Int) < (n : Int) := by omega
        have hP3 := (hP.drewN 1).setU i (u0 i + (A - d k))
        have hR3 := (hR.drewN 1).other hp2 i (.int .i64 (u0 i + (A - d k)))
        have HP2 := Lib.hid hP2
        have HP := Lib.hid hP
        have HR := Lib.hid hR
        clear hP2 hdn hoi hx hP3 hR3 hP hR
        generalize u0 i = x at *
        generalize hdx : d k = dk at *
        have HDX := Lib.hid hdx
        clear hdx
        generalize hvx : v k = vk at *
        have HVX := Lib.hid hvx
        have w1 : IntKind.i64.wrap (A - dk) = A - dk := wrapI (by omega) (by omega)
        have w2 : IntKind.i64.wrap (x + (A - dk)) = x + (A - dk) := wrapI (by omega) (by omega)
        have w3 : IntKind.i64.wrap (vk - (A - dk)) = vk - (A - dk) := wrapI (by omega) (by omega)
        clear hvx
        go_wp2_with (fail)
        go_region
        go_wp2_with (fail)
        have hP3 := (HP.out.setU i (x + (A - dk))).drew
        have hR3 := (HR.out.other hp2 i (.int .i64 (x + (A - dk)))).drew
        have hb3 : Below B w (wr.setCell ⟨gu, i, none⟩ (.int .i64 (x + (A - dk)))).drew := (below_set hb hB2 _).drew
        clear p1 p3 q0 co cu ca fu cd
        generalize (wr.setCell ⟨gu, i, none⟩ (.int .i64 (x + (A - dk)))).drew = W at *
        have p2 : W.cell? ⟨p, 2, none⟩ = some (.slice (some ⟨gv, 0, none⟩) m m) := hP3.box.cell 2
        have q0 : W.cell? ⟨q, 0, none⟩ = some (.slice (some ⟨ga, 0, none⟩) m m) := hR3.box.cell 0
        have cv := hP3.cols.int hlt
        have ca := hR3.away.int hlt
        have fv := hP3.cols.frozen
        rw [parI_at, HVX.out] at cv
        rw [HDX.out] at ca
        have HPN := Lib.hid (HP2.out _ ((hP3.setV k (vk - (A - dk))).drew))
        have HRN := Lib.hid ((hR3.other hp3 k (.int .i64 (vk - (A - dk)))).drew)
        have hbN : Below B w (W.setCell ⟨gv, k, none⟩ (.int .i64 (vk - (A - dk)))).drew := (below_set hb3 hB3 _).drew
        clear hP3 hR3 HP2 HP HR
        go_region
        go_wp2_with (fail)
        go_roundw
        case rel => exact ⟨k + 1, by omega, by go_num, HPN.out, HRN.out, hbN⟩
        case measure => simp [intOf]; omega
    · obtain rfl : k = m := by omega
      go_wp2
      refine bodyPost_end (results_none rfl _ _ _) rfl ?_
      have h1 := hP.cols
      rw [parI_full] at h1
      exact ⟨⟨_, rfl⟩, ⟨hP.box, hP.rows, h1, hP.own, hP.far⟩, hR, hb⟩

end Go.Proofs.Ytncmfjncdhhjoaa
