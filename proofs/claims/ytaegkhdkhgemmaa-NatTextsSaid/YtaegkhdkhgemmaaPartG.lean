/- Part of the proof of NatTexts: NewG, DigSt, DigA, HeldIn, RefC, RefAdd, RefSub, Whole, AddsW, RingW. -/
import Derived.Laws.EntriesVeiled
import Derived.Test.YtaegkhdkhgemmaaPartF
import Derived.Test.YtaegkhdkhgemmaaPartD
import Derived.Test.YtaegkhdkhgemmaaPartE
import Derived.OrdersHeld
/- newGiver: the powers that a number is taken apart by. -/
namespace Go.Proofs.Ytaegkhdkhgemmaa
open Go.RowKit Num

theorem info88 : (Try.prog.info? 88).map (fun i => (i.zero, i.size, i.bytes)) = some (some (.slice none 0 0), 1, 24) := by kernel_rfl

def lenS : Value → Nat
  | .slice _ n _ => n
  | _ => 0
/-- A giver's struct. -/
def Quad (w : World) (g : Nat) (x y z t : Value) : Prop := w.heap[g]? = some (.cells #[x, y, z, t] 114 (0, 0))
section
variable {w : World} {g : Nat} {x y z t : Value}
theorem Quad.c0 (h : Quad w g x y z t) : w.cell? ⟨g, 0, none⟩ = some x := by unfold Quad at h; simp [World.cell?, h]
theorem Quad.c1 (h : Quad w g x y z t) : w.cell? ⟨g, 1, none⟩ = some y := by unfold Quad at h; simp [World.cell?, h]
theorem Quad.c2 (h : Quad w g x y z t) : w.cell? ⟨g, 2, none⟩ = some z := by unfold Quad at h; simp [World.cell?, h]
theorem Quad.c3 (h : Quad w g x y z t) : w.cell? ⟨g, 3, none⟩ = some t := by unfold Quad at h; simp [World.cell?, h]
theorem Quad.frozen (h : Quad w g x y z t) (i : Nat) : w.frozen? ⟨g, i, none⟩ = false := by unfold Quad at h; simp [World.frozen?, h]
theorem Quad.set (h : Quad w g x y z t) (x' y' z' t' : Value) :
    Quad ((((w.setCell ⟨g, 0, none⟩ x').setCell ⟨g, 1, none⟩ y').setCell ⟨g, 2, none⟩ z').setCell ⟨g, 3, none⟩ t') g x' y' z' t' := by
  unfold Quad at *
  simp [World.setCell, Array.getElem?_modify, h]
end
theorem quad_other (w : World) {g k : Nat} (hg : k ≠ g) (a b c d : Value) :
    ((((w.setCell ⟨g, 0, none⟩ a).setCell ⟨g, 1, none⟩ b).setCell ⟨g, 2, none⟩ c).setCell ⟨g, 3, none⟩ d).heap[k]? = w.heap[k]? := by
  rw [Below.heap_setCell _ _ _ _ hg, Below.heap_setCell _ _ _ _ hg, Below.heap_setCell _ _ _ _ hg, Below.heap_setCell _ _ _ _ hg]
theorem und114 : (Try.prog.underlying 114).map (fun d => match d with | .struct _ | .array _ _ => true | _ => false) = some true := by kernel_rfl
theorem size114 : (Try.prog.info? 114).map (·.size) = some 4 := by kernel_rfl
theorem Quad.results {fn : Func} {w : World} {g : Nat} {x y z t : Value} (h : Quad w g x y z t) {k : Nat} (hr : fn.results = #[.cell k 114]) (tmps : Array Value) (hp : tmps.getD k undef = .pointer (some ⟨g, 0, none⟩)) :
    (results fn tmps).run Try.prog w = .ok (.agg #[x, y, z, t]) w := by
  obtain ⟨d, hd, hm⟩ := Option.map_eq_some_iff.1 und114
  cases d <;> first | exact results_cell_row hr tmps w g 114 _ (0, 0) _ hp h hd rfl size114 | exact absurd hm (by simp)

theorem ownW_grown {B : Nat} {w w' : World} {v : Value} {n : Nat} {row : Option Nat} (h : OwnW B w v n) (hg : w.grownBy w' row) (hr : ∀ g, row = some g → ∃ cur f, w.heap[g]? = some (.cells cur 88 f)) : OwnW B w' v n := by
  obtain ⟨g, c, zs, e, h1, h2, h3, h4, h5⟩ := h
  refine ⟨g, c, zs, e, h1, h2, h3, h4.grown hg (fun he => ?_), h5⟩
  obtain ⟨cur, f, hc⟩ := hr g he.symm
  have := h4.heap
  rw [hc] at this
  injection this with this
  injection this with _ this _
  exact absurd this (by decide)
theorem ownW_keep {B : Nat} {w w' : World} {v : Value} {n : Nat} (h : OwnW B w v n) (hb : Below w.heap.size w w') : OwnW B w' v n := by
  obtain ⟨g, c, zs, e, h1, h2, h3, h4, h5⟩ := h
  exact ⟨g, c, zs, e, h1, h2, h3, h4.of_block (hb.block g h4.lt), h5⟩
theorem ownW_other {B : Nat} {w : World} {v : Value} {n g : Nat} {x y z t : Value} (h : OwnW B w v n) (hq : Quad w g x y z t) (a b c d : Value) :
    OwnW B ((((w.setCell ⟨g, 0, none⟩ a).setCell ⟨g, 1, none⟩ b).setCell ⟨g, 2, none⟩ c).setCell ⟨g, 3, none⟩ d) v n := by
  obtain ⟨g1, c1, zs, e, h1, h2, h3, h4, h5⟩ := h
  refine ⟨g1, c1, zs, e, h1, h2, h3, h4.of_block (quad_other _ (fun he => ?_) _ _ _ _), h5⟩
  have := h4.heap
  unfold Quad at hq
  rw [he, hq] at this
  injection this with this
  injection this with _ this _
  exact absurd this (by decide)
theorem ownsRow_keep {B T s : Nat} {w w' : World} {v : Value} {n : Nat} {xs : List Value} (h : w.ownsRow B T s v n xs) (hb : Below w.heap.size w w') : w'.ownsRow B T s v n xs := by
  refine ⟨h.1, ?_⟩
  rcases h.2 with h | ⟨g, cap, cur, e, hg, hh, r⟩
  · exact .inl h
  · exact .inr ⟨g, cap, cur, e, hg, (hb.block g (Array.getElem?_eq_some_iff.1 hh).1).trans hh, r⟩
theorem sq_len {X L : Nat} (hL : L = (dig B64 X).length) (hX : 1 ≤ X) (h2 : B64 ≤ X * X) : L + 1 ≤ (dig B64 (X * X)).length ∧ (dig B64 (X * X)).length ≤ 2 * L ∧ 2 * L - 1 ≤ (dig B64 (X * X)).length ∧ B64 ^ (2 * L - 2) ≤ X * X := by
  have hp := dig_len_pos (n := X) (by omega)
  have h3 := dig_len_ge b64_two (n := X) hp
  have h4 := dig_len_lt b64_two (n := X)
  rw [← hL] at h3 h4 hp
  have h5 : X * X < B64 ^ (2 * L) := by
    rw [Nat.two_mul, Nat.pow_add]
    exact Nat.mul_lt_mul_of_lt_of_lt h4 h4
  have h6 : B64 ^ (2 * L - 2) ≤ X * X := by
    rw [show 2 * L - 2 = (L - 1) + (L - 1) by omega, Nat.pow_add]
    exact Nat.mul_le_mul h3 h3
  have h7 : (dig B64 (X * X)).length ≤ 2 * L := dig_len_le b64_two h5
  have h8 := dig_len_lt b64_two (n := X * X)
  have h9 : 2 * L - 2 < (dig B64 (X * X)).length := by
    rcases Nat.lt_or_ge (2 * L - 2) (dig B64 (X * X)).length with h | h
    · exact h
    · exfalso
      have := Nat.pow_le_pow_right b64_pos h
      omega
  have h10 : 1 < (dig B64 (X * X)).length := by
    rcases Nat.lt_or_ge 1 (dig B64 (X * X)).length with h | h
    · exact h
    · exfalso
      have := Nat.pow_le_pow_right b64_pos h
      rw [Nat.pow_one] at this
      omega
  exact ⟨by omega, h7, by omega, h6⟩

/-- What newGiver hands back. -/
def NewGPost (b len : Nat) (y : Value) (w : World) (e : Ending) (w' : World) : Prop :=
  ∃ (count K gp cap : Nat), e = .returned (.agg #[.int .u64 (b : Int), .int .i64 (count : Int), .slice (some ⟨gp, 0, none⟩) K cap, y]) ∧ 1 ≤ K ∧ K ≤ len + 1 ∧ K ≤ cap ∧ 1 ≤ count ∧ count ≤ 64 ∧ b ^ count < B64 ∧ w.heap.size ≤ gp ∧
    (∃ cur, w'.heap[gp]? = some (.cells cur 88 (0, 0)) ∧ ∀ i, i < K → ∃ v, cur[i]? = some v ∧ OwnW w.heap.size w' v (Upow b count i)) ∧
    B64 ^ len ≤ Upow b count K ∧ (∀ i, i < K → (dig B64 (Upow b count i)).length ≤ len + 1) ∧ Below w.heap.size w w'

set_option maxHeartbeats 4000000 in
set_option maxRecDepth 100000 in
theorem newGiver_any (b len l : Nat) (w : World) (hb : 2 ≤ b) (hbb : b ≤ B32) (hlen : len ≤ 100000) :
    Calls Try.prog 104 #[.int .u64 (b : Int), .int .i64 (len : Int), .func (.yield l) #[] #[]] w (NewGPost b len (.func (.yield l) #[] #[]) w) := by
  obtain ⟨Mx, hMx⟩ : ∃ Mx, 18446744073709551615 / b = Mx := ⟨_, rfl⟩
  have hmd : (18446744073709551615 : Int).tdiv (b : Int) = (Mx : Int) := by rw [Int.tdiv_eq_ediv_of_nonneg (by omega), ← hMx]; rfl
  have hMw : IntKind.u64.wrap (Mx : Int) = (Mx : Int) := by
    have : Mx ≤ 18446744073709551615 := by rw [← hMx]; exact Nat.div_le_self _ _
    rw [IntKind.wrap_u64]; omega
  have hb0 : ¬ b = 0 := by omega
  have hb0' : ¬ (b : Int) = 0 := by omega
  have HM := Lib.hid hMx
  have HBB := Lib.hid hbb
  clear hMx hbb
  go_enter Try.func104, Try.ntmps104
  go_wp2_with (fail)
  go_loopw [7, 8] (fun u c wr => ∃ (k : Nat), u = .int .u64 ((b ^ k : Nat) : Int) ∧ c = .int .i64 (k : Int) ∧ 1 ≤ k ∧ k ≤ 64 ∧ b ^ k < B64 ∧ wr = w.alloc (.cells #[.int .u64 0, .int .i64 0, .slice none 0 0, .nilFunc] 114)) (fun _ c _ => 64 - (intOf c).toNat)
  case atStart => exact ⟨1, by rw [Nat.pow_one], rfl, Nat.le_refl _, by omega, by rw [Nat.pow_one]; have := HBB.out; unfold B32 at this; unfold B64; omega, rfl⟩
  case round =>
    obtain ⟨k, rfl, rfl, hk1, hk64, hu, rfl⟩ := hrel
    have hpw : b ^ (k + 1) = b ^ k * b := Nat.pow_succ ..
    have h2k : 2 ^ (k + 1) ≤ b ^ (k + 1) := Nat.pow_le_pow_left hb _
    have hU1 : 1 ≤ b ^ k := Nat.pow_pos (by omega)
    obtain ⟨U, hU⟩ : ∃ U, b ^ k = U := ⟨_, rfl⟩
    rw [hU] at hpw hu hU1 ⊢
    by_cases hle : U ≤ Mx
    · have hub : U * b < B64 := by
        have h1 := Nat.mul_le_mul_right b hle
        have h2 := Nat.div_mul_le_self 18446744073709551615 b
        rw [HM.out] at h2
        unfold B64; omega
      obtain ⟨V, hV⟩ : ∃ V, U * b = V := ⟨_, rfl⟩
      have hVi : (U : Int) * (b : Int) = (V : Int) := by rw [← hV]; push_cast; rfl
      have hw : IntKind.u64.wrap (V : Int) = (V : Int) := by
        rw [hV] at hub; unfold B64 at hub
        rw [IntKind.wrap_u64]; omega
      have hlt : k + 1 ≤ 64 := by
        rcases Nat.lt_or_ge (k + 1) 65 with h | h
        · omega
        · exfalso
          have := Nat.pow_le_pow_right (show 0 < 2 by omega) h
          rw [hpw] at h2k
          unfold B64 at hub
          have e : (2 : Nat) ^ 65 = 36893488147419103232 := by decide
          omega
      have HP := Lib.hid hpw
      have HV := Lib.hid hV
      have HUB := Lib.hid hub
      clear hpw hV hub h2k hu hU
      go_wp2
      go_roundw
      case rel => exact ⟨k + 1, by rw [HP.out, HV.out], by go_num, by omega, hlt, by rw [HP.out]; exact HUB.out, by first | rfl | trivial⟩
      case measure => simp [intOf]; omega
    · have hbig : B64 ≤ U * b := by
        have h1 : Mx + 1 ≤ U := by omega
        have h2 := Nat.mul_le_mul_right b h1
        have h3 := Nat.div_add_mod 18446744073709551615 b
        rw [HM.out] at h3
        have h4 := Nat.mod_lt 18446744073709551615 (show 0 < b by omega)
        rw [Nat.add_mul, Nat.one_mul, Nat.mul_comm] at h2
        unfold B64; omega
      have hU2 : B64 ≤ U * U := by
        have h1 : b ≤ U := by
          have h5 : B32 * B32 = B64 := by unfold B32 B64; rfl
          rcases Nat.lt_or_ge U b with h | h
          · exfalso
            have h6 := Nat.mul_le_mul_right b (Nat.le_of_lt h)
            have h7 := Nat.mul_le_mul HBB.out HBB.out
            have h8 : U * b < B32 * B32 := Nat.lt_of_lt_of_le (Nat.mul_lt_mul_of_pos_right (Nat.lt_of_lt_of_le h HBB.out) (by omega)) (Nat.mul_le_mul_left _ HBB.out)
            omega
          · exact h
        exact Nat.le_trans hbig (Nat.mul_le_mul_left U h1)
      have hUp : ∀ i, Upow b k i = U ^ (2 ^ i) := fun i => by unfold Upow; rw [Nat.pow_mul, hU]
      have hl1 : dig B64 U = [U] := dig1 b64_two (by omega) hu
      obtain ⟨G, hG⟩ : ∃ G, w.heap.size = G := ⟨_, rfl⟩
      obtain ⟨w1, hw1⟩ : ∃ w1, w.alloc (.cells #[.int .u64 0, .int .i64 0, .slice none 0 0, .nilFunc] 114) = w1 := ⟨_, rfl⟩
      have hs1 : w1.heap.size = G + 1 := by rw [← hw1, ← hG]; simp
      have hrow1 : w1.heap[G]? = some (.cells #[.int .u64 0, .int .i64 0, .slice none 0 0, .nilFunc] 114 (0, 0)) := by rw [← hw1, ← hG]; exact heap_alloc_new _ _
      have hb1 : Below G w w1 := by rw [← hw1, ← hG]; exact below_new _ _
      rw [hw1]
      have hru := row_one w1 U
      have hown0 := own_of_trim (B := G) b64_two hru (Low.cons hu (Low.nil _)) (by omega)
      have hv1 : val B64 [U] = U := by simp [val]
      rw [hv1, hl1] at hown0
      have hrp : (w1.alloc (.cells #[.int .u64 (U : Int)] 24)).heap.size = G + 2 := by simp [hs1]
      obtain ⟨w2, hw2⟩ : ∃ w2, (w1.alloc (.cells #[.int .u64 (U : Int)] 24)).alloc (.cells #[.slice (some ⟨G + 1, 0, none⟩) 1 1] 88) = w2 := ⟨_, rfl⟩
      have hb2 : Below G w w2 := by rw [← hw2]; exact (hb1.alloc (by have := hb1.size; omega) _).alloc (by rw [hrp]; omega) _
      have hrow2 : w2.heap[G]? = some (.cells #[.int .u64 0, .int .i64 0, .slice none 0 0, .nilFunc] 114 (0, 0)) := by
        rw [← hw2]
        exact ((below_new (w1.alloc (.cells #[.int .u64 (U : Int)] 24)) _).block G (by rw [hrp]; omega)).trans (((below_new w1 _).block G (by rw [hs1]; omega)).trans hrow1)
      have hown2 : OwnW G w2 (.slice (some ⟨G + 1, 0, none⟩) 1 1) U := by
        rw [← hw2, ← hs1]; exact ownW_keep hown0 (below_new _ _)
      have hrow0 : w2.ownsRow (G + 1) 88 1 (.slice (some ⟨G + 2, 0, none⟩) 1 1) 1 [.slice (some ⟨G + 1, 0, none⟩) 1 1] := by
        refine ⟨rfl, .inr ⟨G + 2, 1, #[.slice (some ⟨G + 1, 0, none⟩) 1 1], rfl, by omega, ?_, Nat.le_refl _, by unfold maxLen; omega, rfl, rfl⟩⟩
        rw [← hw2, ← hrp]
        exact heap_alloc_new _ _
      obtain ⟨i0, hi, hz0, hz1, hz2⟩ := info_parts info88
      have HR2 := Lib.hid hrow2
      have HO2 := Lib.hid hown2
      have HR0 := Lib.hid hrow0
      have HUP := Lib.hid hUp
      have HL1 := Lib.hid hl1
      have HU2 := Lib.hid hU2
      have HU := Lib.hid hU
      have HG := Lib.hid hG
      clear hrow2 hown2 hrow0 hUp hl1 hU2 hU hG hbig hpw h2k hown0 hru hv1 hrow1 hw1
      go_wp2_with (fail)
      rw [HG.out]
      clear hw2 hrp hs1 hb1
      go_loopw [9, 10] (fun v p wr => ∃ (j L c9 g9 gp cap : Nat) (vs : List Value), v = .slice (some ⟨g9, 0, none⟩) L c9 ∧ p = .slice (some ⟨gp, 0, none⟩) (j + 1) cap ∧ L = (dig B64 (U ^ 2 ^ j)).length ∧ j + 1 ≤ L ∧ L ≤ len + 1 ∧ vs.length = j + 1 ∧ vs[j]? = some v ∧ wr.ownsRow (G + 1) 88 1 p (j + 1) vs ∧
        (∀ i x, vs[i]? = some x → OwnW G wr x (U ^ 2 ^ i) ∧ (dig B64 (U ^ 2 ^ i)).length ≤ len + 1) ∧ Quad wr G (.int .u64 0) (.int .i64 0) (.slice none 0 0) .nilFunc ∧ Below G w wr) (fun v _ _ => len + 1 - lenS v)
      case atStart =>
        refine ⟨0, 1, 1, G + 1, G + 2, 1, _, rfl, rfl, ?_, by omega, by omega, rfl, rfl, HR0.out, ?_, HR2.out, hb2⟩
        · rw [Nat.pow_zero, Nat.pow_one, HL1.out]; rfl
        · intro i x hx
          cases i with
          | zero =>
            simp at hx
            subst hx
            rw [Nat.pow_zero, Nat.pow_one]
            exact ⟨HO2.out, by rw [HL1.out]; simp⟩
          | succ i => simp at hx
      case round =>
        clear HR2 HR0 HO2 hb2
        obtain ⟨j, L, c9, g9, gp, cap, vs, rfl, rfl, hL, hjL, hLl, hvl, hvj, hown, hall, hrow, hbl⟩ := hrel
        have hX : 1 ≤ U ^ 2 ^ j := Nat.pow_pos (by omega)
        have hX2 : B64 ≤ U ^ 2 ^ j * U ^ 2 ^ j := Nat.le_trans HU2.out (by
          have : U ≤ U ^ 2 ^ j := Nat.le_self_pow (by have := Nat.two_pow_pos j; omega) U
          exact Nat.mul_le_mul this this)
        have hnext : U ^ 2 ^ (j + 1) = U ^ 2 ^ j * U ^ 2 ^ j := by rw [← Nat.pow_add, Nat.pow_succ]; congr 1; omega
        obtain ⟨q1, q2, q3, q4⟩ := sq_len hL hX hX2
        obtain ⟨hlast, hlastl⟩ := hall j _ hvj
        have hlw := hlast.is
        have hfin : len < 2 * L - 1 → B64 ^ len ≤ U ^ 2 ^ (j + 1) := fun h => by
          rw [hnext]; exact Nat.le_trans (Nat.pow_le_pow_right b64_pos (by omega)) q4
        have hgp : ∃ cur, wr.heap[gp]? = some (.cells cur 88 (0, 0)) ∧ j + 1 ≤ cap ∧ cur.toList.take (j + 1) = vs ∧ G + 1 ≤ gp := by
          rcases hown.2 with ⟨h, _⟩ | ⟨g2, cap2, cur, h, hg2, hh, hc, _, _, ht⟩
          · cases h
          · injection h with h1 h2 h3
            injection h1 with h1
            injection h1 with h1
            subst h1 h3
            rw [Nat.mul_one] at ht
            exact ⟨cur, hh, hc, ht, hg2⟩
        have HL := Lib.hid hL
        have HN := Lib.hid hnext
        have HF := Lib.hid hfin
        have HX := Lib.hid (And.intro q1 (And.intro q2 q3))
        have HOWN := Lib.hid hown
        have HALL := Lib.hid hall
        have HVL := Lib.hid hvl
        have HGP := Lib.hid hgp
        have HROW := Lib.hid hrow
        have HLW := Lib.hid hlw
        clear hnext hfin q1 q2 q3 q4 hown hall hvl hvj hlast hlastl hX hX2 hgp hrow hlw
        by_cases hgo : 2 * L - 1 ≤ len
        · have hmul := mulAt_all (m := U ^ 2 ^ j) (n := U ^ 2 ^ j) (by rw [← HL.out]; omega) (by rw [← HL.out]; omega) _ _ wr HLW.out HLW.out
          rw [← HN.out] at hmul
          have hg1 : 2 * (L : Int) - 1 ≤ (len : Int) := by omega
          have HMUL := Lib.hid hmul
          clear hmul hL
          go_wp2_with (fail)
          refine HMUL.out.mono ?_
          rintro e w3 ⟨v3, rfl, hv3, hb3⟩
          obtain ⟨g3, c3, rfl⟩ : ∃ g3 c3, v3 = .slice (some ⟨g3, 0, none⟩) (dig B64 (U ^ 2 ^ (j + 1))).length c3 := by
            obtain ⟨g3, c3, zs3, e, _⟩ := hv3; exact ⟨g3, c3, e⟩
          generalize hL3 : (dig B64 (U ^ 2 ^ (j + 1))).length = L3 at *
          have hown3 : w3.ownsRow (G + 1) 88 1 (.slice (some ⟨gp, 0, none⟩) (j + 1) cap) (j + 1) vs := ownsRow_keep HOWN.out hb3
          obtain ⟨x1, x2, x3⟩ := HX.out
          rw [← HN.out, hL3] at x1 x2
          have hjj : j + 1 ≤ 100000 := by omega
          have b3 := below_at hbl (Nat.le_of_eq HG.out.symm) hb3
          have HQ := Lib.hid hL3
          clear hL3
          go_wp2_with (at_builtin
                       refine wpList_append_own _ rfl _ _ 112 rfl (G + 1) 88 i0 (.slice none 0 0) 1 24 Try.underlying112 hi hz0 hz1 hz2 rfl (by decide) _ (j + 1) _ rfl (hown3.alloc _) ⟨w3.heap.size, 0, none⟩ 1 1 [.slice (some ⟨g3, 0, none⟩) L3 c3] rfl rfl (cell_one_new _ _ _) (by simp [Value.oneCell']) ?c4 ?c5 ?c6 ?_)
          case c4 => unfold maxLen; omega
          case c5 => omega
          case c6 => have := b3.size; have := HROW.out; have := (Array.getElem?_eq_some_iff.1 this).1; have := hbl.size; have := hb3.size; simp; omega
          intro v4 w4 hown4 hgr4 _
          obtain ⟨g4, cap4, rfl⟩ : ∃ g4 cap4, v4 = .slice (some ⟨g4, 0, none⟩) (j + 1 + 1) cap4 := by
            rcases hown4.2 with ⟨_, h⟩ | ⟨g, cp, _, e, _⟩
            · omega
            · exact ⟨g, cp, e⟩
          obtain ⟨cur, e1, e2, e3, e4⟩ := HGP.out
          have hgpl := (Array.getElem?_eq_some_iff.1 e1).1
          have e1' : w3.heap[gp]? = some (.cells cur 88 (0, 0)) := (hb3.block gp hgpl).trans e1
          have e1'' := (below_new w3 (.cells #[.slice (some ⟨g3, 0, none⟩) L3 c3] 88)).block gp (Array.getElem?_eq_some_iff.1 e1').1
          have hkeep : ∀ x n, OwnW G w3 x n → OwnW G w4 x n := fun x n h => by
            refine ownW_grown (ownW_keep h (below_new _ _)) hgr4 (fun g hg => ?_)
            simp only [Value.ownBlock, Option.some.injEq] at hg
            subst hg
            exact ⟨cur, _, e1''.trans e1'⟩
          have hb4 : Below G w w4 := (b3.alloc (by have := b3.size; have := HG.out; omega) _).grown hgr4 (by have := b3.size; have := HG.out; simp; omega) (fun g hg => by simp only [Value.ownBlock, Option.some.injEq] at hg; omega)
          have hr4 : Quad w4 G (.int .u64 0) (.int .i64 0) (.slice none 0 0) .nilFunc := by
            have hq := HROW.out
            have hGl := (Array.getElem?_eq_some_iff.1 hq).1
            have h1 := (hb3.block G hGl).trans hq
            have h2 := ((below_new w3 (.cells #[.slice (some ⟨g3, 0, none⟩) L3 c3] 88)).block G (Array.getElem?_eq_some_iff.1 h1).1).trans h1
            exact (hgr4.block G (Array.getElem?_eq_some_iff.1 h2).1 (by simp only [Value.ownBlock, ne_eq, Option.some.injEq]; omega)).trans h2
          have hvs := HVL.out
          have O4 := Lib.hid hown4
          clear hown4 hgr4 hown3 e1 e1' e1'' e3
          go_wp2
          go_roundw
          case rel =>
            refine ⟨j + 1, L3, c3, g3, g4, cap4, vs ++ [.slice (some ⟨g3, 0, none⟩) L3 c3], rfl, rfl, HQ.out.symm, by omega, by omega, by simp [hvs], ?_, O4.out, ?_, hr4, hb4⟩
            · rw [List.getElem?_append_right (by omega), hvs]; simp
            · intro i x hx
              rcases Nat.lt_or_ge i vs.length with h | h
              · rw [List.getElem?_append_left h] at hx
                obtain ⟨h1, h2⟩ := HALL.out i x hx
                exact ⟨hkeep _ _ (ownW_keep h1 hb3), h2⟩
              · rw [List.getElem?_append_right h] at hx
                obtain rfl : i = j + 1 := by
                  rcases Nat.lt_or_ge i (vs.length + 1) with h' | h'
                  · omega
                  · rw [List.getElem?_eq_none (by simp; omega)] at hx; cases hx
                rw [show j + 1 - vs.length = 0 by omega] at hx
                simp at hx
                subst hx
                refine ⟨hkeep _ _ ?_, by rw [HQ.out]; omega⟩
                obtain ⟨g, c, zs, h1, h2, h3, h4, h5⟩ := hv3
                exact ⟨g, c, zs, h1, h2, h3, Nat.le_trans (by have := HG.out; have := hbl.size; omega) h4, h5⟩
          case measure => simp [lenS]; omega
        · have hg1 : ¬ 2 * (L : Int) - 1 ≤ (len : Int) := by omega
          have hQ : Quad wr G (.int .u64 0) (.int .i64 0) (.slice none 0 0) .nilFunc := HROW.out
          have c0 := hQ.c0
          have c1 := hQ.c1
          have c2 := hQ.c2
          have c3 := hQ.c3
          have hfz := hQ.frozen
          have hGl := (Array.getElem?_eq_some_iff.1 hQ).1
          clear hL hQ
          go_wp2_with (fail)
          (try simp only [Exit.inBlock, Exit.then])
          have hq2 : Quad wr G (.int .u64 0) (.int .i64 0) (.slice none 0 0) .nilFunc := HROW.out
          refine bodyPost_ret (Quad.results (hq2.set _ _ _ _) rfl _ rfl) rfl ?_
          obtain ⟨cur, e1, e2, e3, e4⟩ := HGP.out
          have hvs := HVL.out
          refine ⟨k, j + 1, gp, cap, rfl, by omega, by omega, e2, hk1, hk64, by rw [HU.out]; exact hu, by rw [HG.out]; omega, ⟨cur, ?_, ?_⟩, ?_, ?_, ?_⟩
          · rw [quad_other _ (by omega)]; exact e1
          · intro i hi'
            have hiv : i < vs.length := by omega
            have hx : vs[i]? = some vs[i] := List.getElem?_eq_getElem hiv
            obtain ⟨h1, h2⟩ := HALL.out i _ hx
            refine ⟨vs[i], ?_, ?_⟩
            · rw [← hx, ← e3, List.getElem?_take, if_pos hi']; simp
            · rw [HUP.out, HG.out]
              exact ownW_other h1 (hq2) _ _ _ _
          · rw [HUP.out]; exact HF.out (by omega)
          · intro i hi'
            have hiv : i < vs.length := by omega
            have hx : vs[i]? = some vs[i] := List.getElem?_eq_getElem hiv
            rw [HUP.out]
            exact (HALL.out i _ hx).2
          · rw [HG.out]
            exact below_set (below_set (below_set (below_set hbl (Nat.le_refl _) _) (Nat.le_refl _) _) (Nat.le_refl _) _) (Nat.le_refl _) _
end Go.Proofs.Ytaegkhdkhgemmaa

/- The sequence that Digits hands back, as a loop over it sees it. -/
namespace Go.Proofs.Ytaegkhdkhgemmaa
open Go.RowKit Go.Shelf Num
attribute [local go_sem] Oper.semAt_some

theorem len_sq {X m K : Nat} (hX : (dig B64 X).length ≤ K) (hm : m < X * X) : (dig B64 m).length ≤ K + K := by
  have h3 := dig_len_lt b64_two (n := X)
  have h4 : X ≤ B64 ^ K := Nat.le_trans (Nat.le_of_lt h3) (Nat.pow_le_pow_right b64_pos hX)
  refine dig_len_le b64_two (Nat.lt_of_lt_of_le hm ?_)
  rw [Nat.pow_add]
  exact Nat.mul_le_mul h4 h4

theorem divsBy_of {b count K len : Nat} (hb : 2 ≤ b) (hl : ∀ i, i < K → (dig B64 (Upow b count i)).length ≤ len + 1) (hlen : len ≤ 150) : DivsBy b count K := by
  intro i hi v u m w hv hu hm
  have h1 := hl i hi
  have hp : 0 < Upow b count i := Nat.pow_pos (by omega)
  rw [upow_sq] at hm
  have h2 := len_sq (K := len + 1) h1 hm
  exact divide_any_q v u m _ w hv hu hp (by omega) (by omega) (.inl (by omega))

theorem giv_of {R : World → Nat → Prop} {W W1 : World} {b count l gp K cap : Nat} (hR : RB R W.heap.size) (hg : Good R W) (hb : Below W.heap.size W W1) (hcap : K ≤ cap) (hgp : W.heap.size ≤ gp)
    (hcur : ∃ cur, W1.heap[gp]? = some (.cells cur 88 (0, 0)) ∧ ∀ i, i < K → ∃ v, cur[i]? = some v ∧ OwnW W.heap.size W1 v (Upow b count i)) (W2 : World) (hb2 : Below W1.heap.size W1 W2)
    (hq : Quad W2 W1.heap.size (.int .u64 (b : Int)) (.int .i64 (count : Int)) (.slice (some ⟨gp, 0, none⟩) K cap) (.func (.yield l) #[] #[])) : Giv R W2 W1.heap.size b count l gp K cap (Upow b count) := by
  have hbb : Below W.heap.size W W2 := below_at hb (Nat.le_refl _) hb2
  obtain ⟨cur, e1, e2⟩ := hcur
  refine ⟨fun k hk => Nat.lt_of_lt_of_le (hg k (hR _ _ k hbb hk)) hbb.size, ⟨hq, rfl, not_named hR hg hbb hb.size⟩, hcap, cur, ⟨(hb2.block gp (Array.getElem?_eq_some_iff.1 e1).1).trans e1, rfl, not_named hR hg hbb hgp⟩, fun i hi => ?_⟩
  obtain ⟨v, h1, h2⟩ := e2 i hi
  exact ⟨v, h1, KNum.of (ownW_keep h2 hb2).is hbb hR hg (fun _ => at_ownW h2)⟩

set_option maxHeartbeats 4000000 in
set_option maxRecDepth 100000 in
theorem digits_stops (F : Fence) (hF : Free F Try.prog) (hro : F.round = none) (R : World → Nat → Prop) (n b bb bw x : Nat) (vw : Value) (w : World) (hb : 2 ≤ b) (hbb : b < B32) (hx : (dig B64 x).length ≤ 150)
    (hbl : bb < w.heap.size) (hcb : w.cell? ⟨bb, 0, none⟩ = some (.int .u32 (b : Int))) (hwl : bw < w.heap.size) (hcw : w.cell? ⟨bw, 0, none⟩ = some vw) (hv : W64 w vw x) (hR : RB R w.heap.size) (hG : Good R w) :
    SeqStopsK F n Try.prog 103 #[.pointer (some ⟨bb, 0, none⟩), .pointer (some ⟨bw, 0, none⟩)] (fun y : Fin b => #[Value.int .u32 ((y.val : Nat) : Int)]) (KpS R) (fun ys => ys = fds b hb (dig b x)) (fun pre => pre <+: fds b hb (dig b x)) (dig b x).length w := by
  intro l J Jx W hW hJ hJx hY h0
  have hfn := hF.fn
  have hdd := hF.room
  have hRW : RB R W.heap.size := fun A B k h => hR A B k (h.mono hW.size)
  have hGW : Good R W := fun k hk => Nat.lt_of_lt_of_le (hG k (hR _ _ k hW hk)) hW.size
  have hcb' := (hW.cell (p := ⟨bb, 0, none⟩) hbl).trans hcb
  have hcw' := (hW.cell (p := ⟨bw, 0, none⟩) hwl).trans hcw
  have hv' := hv.keep hW
  have hYO : YieldOk F R b l (dig b x).length J Jx := fun m pre y W1 h1 h2 => YieldAt.anyDepth hF.depth m (hY pre y W1 h1 h2)
  have hng := newGiver_any b (dig B64 x).length l W hb (Nat.le_of_lt hbb) (by omega)
  have hxl := dig_len_lt b64_two (n := x)
  have hlx : ∀ W1, W64 W1 vw x → ∃ A c, vw = .slice A (dig B64 x).length c := fun W1 h => by obtain ⟨A, c, e, _⟩ := h; exact ⟨A, c, e⟩
  have hwb : IntKind.u64.wrap (b : Int) = (b : Int) := by unfold B32 at hbb; rw [IntKind.wrap_u64]; omega
  have hng' : CallsIn F (n - 1) Try.prog 104 #[.int .u64 (b : Int), .int .i64 ((dig B64 x).length : Int), .func (.yield l) #[] #[]] W fun e W1 => ∃ (count K gp cap : Nat), e = .returned (.agg #[.int .u64 (b : Int), .int .i64 (count : Int), .slice (some ⟨gp, 0, none⟩) (K + 1) cap, .func (.yield l) #[] #[]]) ∧
      W1.cell? ⟨bw, 0, none⟩ = some vw ∧ bw < W1.heap.size ∧ (K : Int) ≤ 200 ∧
      ∀ W2, Below W1.heap.size W1 W2 → Quad W2 W1.heap.size (.int .u64 (b : Int)) (.int .i64 (count : Int)) (.slice (some ⟨gp, 0, none⟩) (K + 1) cap) (.func (.yield l) #[] #[]) →
        CallsIn F (n - 1) Try.prog 105 #[.pointer (some ⟨W1.heap.size, 0, none⟩), vw, .int .i64 (K : Int), .bool false] W2 (Gave R b J Jx [] (fds b hb (dig b x)) W2) := by
    refine (hF.calls _ _ _ _ _ hng).mono ?_
    rintro e W1 ⟨count, K, gp, cap, rfl, k1, k2, k3, k4, k5, k6, k7, k8, k9, k10, k11⟩
    obtain ⟨K, rfl⟩ : ∃ K', K = K' + 1 := ⟨K - 1, by omega⟩
    refine ⟨count, K, gp, cap, rfl, (k11.cell (p := ⟨bw, 0, none⟩) (Nat.lt_of_lt_of_le hwl hW.size)).trans hcw', Nat.lt_of_lt_of_le hwl (Nat.le_trans hW.size k11.size), by omega, ?_⟩
    intro W2 hb2 hq
    have hgv := giv_of (b := b) (count := count) (l := l) hRW hGW k11 k3 k7 k8 W2 hb2 hq
    have hbW : Below W.heap.size W W2 := below_at k11 (Nat.le_refl _) hb2
    have := give_in F hF hro hb k5 (by omega) k3 (Nat.le_of_lt hbb) k6 hJ hYO hRW (divsBy_of hb k10 hx) W1.heap.size (K + 1) (Nat.le_refl _) (K : Int) (n - 1) vw x false [] W2 (by omega) hbW.size hgv (hv'.keep hbW) (Nat.lt_of_lt_of_le hxl k9) (abides_below hJ h0 hbW) (by simp [outs_false])
    rwa [outs_false] at this
  have HNG := Lib.hid hng'
  obtain ⟨A, c, rfl⟩ := hlx W hv'
  clear hng hng' hv hv' hY hYO hcw hcb hx hxl hJ hJx h0 hG hGW hR hRW hlx
  generalize (dig B64 x).length = L at *
  refine callsIn_of_wp Try.func103 rfl (hF.fn _) ?_ hro
  simp only [Try.ntmps103, List.size_toArray, List.length_cons, List.length_nil, Nat.reduceAdd, Nat.reduceSub, Array.replicate_succ, Array.replicate_zero, List.push_toArray, List.append_toArray, List.nil_append, List.cons_append]
  gi_wp2_with ((try refine ⟨hdd _, ?_⟩); gi_at_call 104; refine HNG.out.mono ?_; rintro e W1 ⟨count, K, gp, cap, rfl, q1, q2, q3, q4⟩)
  refine ⟨hdd _, ?_⟩
  refine (q4 _ (below_new _ _) (heap_alloc_new _ _)).mono ?_
  rintro e W3 (⟨rfl, hj, _⟩ | ⟨rfl, q, hq, hj⟩)
  · gi_wp2
    go_end0
    exact ⟨⟨_, rfl⟩, .inl ⟨_, rfl, hj⟩⟩
  · gi_wp2
    go_end0
    exact ⟨⟨_, rfl⟩, .inr ⟨q, hq, hj⟩⟩

set_option maxHeartbeats 1000000 in
/-- The sequence of what has no digits. -/
theorem nothing_stops (F : Fence) (hF : Free F Try.prog) (hro : F.round = none) (R : World → Nat → Prop) (n b : Nat) (w : World) (encs : Fin b → Array Value) :
    SeqStopsK F n Try.prog 102 #[] encs (KpS R) (fun ys => ys = []) (fun pre => pre <+: ([] : List (Fin b))) 0 w := by
  intro l J Jx W hW hJ hJx hY h0
  refine callsIn_of_wp Try.func102 rfl (hF.fn _) ?_ hro
  simp only [Try.ntmps102, List.size_toArray, List.length_cons, List.length_nil, Nat.reduceAdd, Nat.reduceSub, Array.replicate_succ, Array.replicate_zero, List.push_toArray, List.append_toArray, List.nil_append, List.cons_append]
  gi_wp2
  go_end0
  exact ⟨⟨_, rfl⟩, .inl ⟨_, rfl, h0⟩⟩
end Go.Proofs.Ytaegkhdkhgemmaa

/- Digits: the function itself. -/
namespace Go.Proofs.Ytaegkhdkhgemmaa
open Go.RowKit Num

/-- What Digits hands back of a number x: a sequence that has boxed the base and the words. -/
def DigPost (x b : Nat) (w : World) (e : Ending) (w' : World) : Prop :=
  ∃ bb bw vw, e = .returned (.func (.func 103) #[] #[.pointer (some ⟨bb, 0, none⟩), .pointer (some ⟨bw, 0, none⟩)]) ∧ w.heap.size ≤ bb ∧ bb < w'.heap.size ∧ w.heap.size ≤ bw ∧ bw < w'.heap.size ∧
    w'.cell? ⟨bb, 0, none⟩ = some (.int .u32 (b : Int)) ∧ w'.cell? ⟨bw, 0, none⟩ = some vw ∧ OwnW w.heap.size w' vw x ∧ Below w.heap.size w w'

set_option maxHeartbeats 1000000 in
set_option maxRecDepth 100000 in
theorem digits_ok (a : Value) (x b : Nat) (w : World) (ha : N32 w a x) (hx : (dig B32 x).length ≤ 262144) (hb : 2 ≤ b) : Calls Try.prog 67 #[a, .int .u32 (b : Int)] w (DigPost x b w) := by
  have hbA := below_new w (.cells #[.int .u32 (b : Int)] 56)
  have ha1 := ha.keep hbA
  have hf := fromNat_any a x _ ha1 (by omega)
  have hck : Calls Try.prog 31 #[a] (w.alloc (.cells #[.int .u32 (b : Int)] 56)) fun e w'' => e = .returned (.int .i64 0) ∧ (w.alloc (.cells #[.int .u32 (b : Int)] 56)) = w'' := by
    obtain ⟨A, c, rfl, _, hA⟩ := ha1
    have := check_any A c _ (dig B32 x) _ hA rfl (by omega)
    rwa [chk_dig hx] at this
  have HF := Lib.hid hf
  have HC := Lib.hid hck
  have hb2 : ¬ (b : Int) < 2 := by omega
  have hb2' : ¬ b < 2 := by omega
  obtain ⟨A, c, rfl, _⟩ := ha
  clear hf hck ha1 hx
  generalize (dig B32 x).length = L at *
  go_enter Try.func67, Try.ntmps67
  go_wp2_with (first
    | (go_at_call 31; refine HC.out.mono ?_; rintro e w1 ⟨rfl, rfl⟩)
    | (go_at_call 76; refine HF.out.mono ?_; rintro e w2 ⟨v, rfl, hv, hbx⟩
       obtain ⟨g2, c2, L2, rfl⟩ : ∃ g2 c2 L2, v = .slice (some ⟨g2, 0, none⟩) L2 c2 := by
         obtain ⟨g2, c2, _, e, _⟩ := hv; exact ⟨g2, c2, _, e⟩))
  go_ret
  have hb3 := below_at hbA (Nat.le_refl _) hbx
  have h0 := hbx.size
  rw [World.size_alloc] at h0
  have hc0 : w2.cell? ⟨w.heap.size, 0, none⟩ = some (.int .u32 (b : Int)) := (hbx.cell (p := ⟨w.heap.size, 0, none⟩) (by simp)).trans (by simp)
  exact ⟨_, _, .slice (some ⟨g2, 0, none⟩) L2 c2, rfl, Nat.le_refl _, by simp; omega, by omega, by simp, ((below_new w2 _).cell (p := ⟨w.heap.size, 0, none⟩) (by show w.heap.size < _; omega)).trans hc0, by simp, by
    obtain ⟨g, c, zs, h1, h2, h3, h4, h5⟩ := ownW_keep hv (below_new _ _)
    exact ⟨g, c, zs, h1, h2, h3, by simp at h4; omega, h5⟩, hb3.alloc hb3.size _⟩

set_option maxHeartbeats 1000000 in
set_option maxRecDepth 100000 in
theorem digits_bad (a : Value) (b : Nat) (xs : List Nat) (w : World) (ha : Limbs w a xs) (hbad : b < 2 ∨ chk xs ≠ 0) : Calls Try.prog 67 #[a, .int .u32 (b : Int)] w fun e w' => e = .returned (.func (.func 102) #[] #[]) ∧ Below w.heap.size w w' := by
  have hbA := below_new w (.cells #[.int .u32 (b : Int)] 56)
  have hck : Calls Try.prog 31 #[a] (w.alloc (.cells #[.int .u32 (b : Int)] 56)) fun e w'' => e = .returned (.int .i64 (chk xs)) ∧ (w.alloc (.cells #[.int .u32 (b : Int)] 56)) = w'' := by
    obtain ⟨A, c, rfl, h1, h2, hA⟩ := ha.keep hbA
    exact check_any A c _ xs _ hA rfl (by omega)
  obtain ⟨A, c, rfl, _⟩ := ha
  generalize xs.length = L at *
  generalize chk xs = r at *
  have HC := Lib.hid hck
  clear hck
  by_cases h2 : b < 2
  · have h2' : (b : Int) < 2 := by omega
    go_enter Try.func67, Try.ntmps67
    go_wp2
    go_ret
    exact ⟨rfl, hbA⟩
  · have h2' : ¬ (b : Int) < 2 := by omega
    have hr : (r != 0) = true := by
      rcases hbad with h | h
      · omega
      · simp [h]
    have hr2 : ¬ r = 0 := by simpa using hr
    clear hbad
    go_enter Try.func67, Try.ntmps67
    go_wp2_with (go_at_call 31; refine HC.out.mono ?_; rintro e w1 ⟨rfl, rfl⟩)
    go_ret
    exact ⟨rfl, hbA⟩
end Go.Proofs.Ytaegkhdkhgemmaa

/- A region inside a fence: first what yields its value in every world that meets S (loads of what nobody writes), then the rest in one order. The last operation may break S. -/
namespace Go.Proofs.Ytaegkhdkhgemmaa
open Go Go.RowKit
section
variable {F : Fence} {n : Nat} {P : Program} {ops : Array Oper} {Q : Exit → Act → World → Prop} {md : Region.Mode} {S : World → Prop} {e : Nat}

def NoDefer (ops : Array Oper) : Prop := ∀ (i : Nat) (o : Oper) (c : _), ops[i]? = some o → o.op ≠ .defer c

theorem yieldsIf_opIn (hF : Free F P) (hnd : NoDefer ops) {i : Nat} {o : Oper} {v : Value} {a : Act} (hi : ops[i]? = some o) (hy : YieldsIf P ops S o v a)
    {K : Act → World → Prop} {w : World} (hS : S w) (h : K (a.put o.dst v) w) : wpOpIn F n P ops Q i K a w := by
  unfold Go.wpOpIn
  simp only [hi]
  rcases hy with ⟨hw, hv⟩ | ⟨hw, rfl⟩
  · simp only [hw, if_true, Oper.wpIn, Oper.semAt_eq _ _ _ (fun c => hnd i o c hi), hv w hS, Oper.uponIn]; exact ⟨fun f _ => hF.fn f, h⟩
  · simp only [hw, Bool.false_eq_true, if_false]; exact ⟨fun f _ => hF.fn f, h⟩

theorem opIn_putIf (hF : Free F P) (hnd : NoDefer ops) {j : Nat} {oi oj : Oper} {v : Value} (hj : ops[j]? = some oj) (hap : oi.apart ops oj = true)
    (hsi : ∀ cs b, oi.op ≠ .select cs b) (hsj : ∀ cs b, oj.op ≠ .select cs b)
    (hQ : ∀ c a w, Q (.panic c) (a.put oi.dst v) w → Q (.panic c) a w) {K : Act → World → Prop} {a : Act} {w : World}
    (hy : YieldsIf P ops S oi v a) (h : wpOpIn F n P ops Q j K (a.put oi.dst v) w) :
    wpOpIn F n P ops Q j (fun a' w' => YieldsIf P ops S oi v a' ∧ K (a'.put oi.dst v) w') a w := by
  obtain ⟨h1, h2, h3⟩ := Oper.apart_spec hap
  have keep : ∀ (a : Act), YieldsIf P ops S oi v a → ∀ u, YieldsIf P ops S oi v (a.put oj.dst u) := fun a hy u =>
    hy.of_same (execOp_put oi hsi a oj.dst u h3) (wanted_put oi a oj.dst u h3)
  have hndj := fun c => hnd j oj c hj
  unfold wpOpIn at *
  simp only [hj] at *
  rw [wanted_put oj a oi.dst v h1] at h
  split
  · rename_i hw
    simp only [hw, if_true] at h
    unfold Oper.wpIn at *
    refine ⟨fun f _ => hF.fn f, ?_⟩
    have h := h.2
    rw [Oper.semAt_eq _ _ _ hndj, execOp_put oj hsj a oi.dst v h1] at h
    rw [Oper.semAt_eq _ _ _ hndj]
    generalize (execOp a.eval oj).run P w = r at *
    cases r with
    | ok x w' =>
      cases x <;> simp only [Oper.uponIn] at h ⊢
      case value u => exact ⟨keep a hy u, by rw [← Act.put_comm a v u h2]; exact h⟩
      case skip => exact ⟨keep a hy _, by rw [← Act.put_comm a v undef h2]; exact h⟩
      case defer d =>
        refine ⟨(hy.of_same rfl rfl : YieldsIf P ops S oi v { a with defers := d :: a.defers }) |> fun k => k.of_same (execOp_put oi hsi _ oj.dst undef h3) (wanted_put oi _ oj.dst undef h3), ?_⟩
        rw [← Act.put_comm _ v undef h2, ← Act.put_defers]
        exact h
      case enter f args =>
        refine ⟨h.1, CallsIn.mono h.2 fun e w'' he => ?_⟩
        cases e with
        | returned u => exact ⟨keep a hy u, by rw [← Act.put_comm a v u h2]; exact he⟩
        | panicked c => exact hQ _ _ _ he
        | outgrown => exact he
      case row row args => exact ⟨h.1, RowsIn.mono h.2 fun u w'' he => ⟨keep a hy u, by rw [← Act.put_comm a v u h2]; exact he⟩⟩
      case round =>
        refine ⟨h.1, RoundIn.mono h.2 fun e w'' he => ?_⟩
        cases e with
        | returned u => exact ⟨keep a hy u, by rw [← Act.put_comm a v u h2]; exact he⟩
        | panicked c => exact hQ _ _ _ he
        | outgrown => exact he
    | halt x w' =>
      cases x <;> simp only [Oper.uponIn] at h ⊢
      case panic u => exact hQ _ _ _ h
  · rename_i hw
    simp only [hw] at h
    exact ⟨fun f _ => hF.fn f, keep a hy _, by rw [← Act.put_comm a v undef h2]; exact h.2⟩

/-- Whatever order is picked from here on; behind each operation but number e S holds. -/
def anyE (F : Fence) (n : Nat) (P : Program) (md : Region.Mode) (ops : Array Oper) (Q : Exit → Act → World → Prop) (S : World → Prop) (e : Nat) : Nat → Array Bool → Act → World → Prop
  | 0, listed, a, w => Region.ready md ops listed = [] ∧ Q .normal a w
  | fuel + 1, listed, a, w =>
    (Region.ready md ops listed = [] → Q .normal a w) ∧
    ∀ i ∈ Region.ready md ops listed, wpOpIn F n P ops Q i (fun a' w' => (i = e ∨ S w') ∧ anyE F n P md ops Q S e fuel (listed.setIfInBounds i true) a' w') a w

theorem anyIn_of_E : ∀ (fuel : Nat) (listed : Array Bool) (a : Act) (w : World), anyE F n P md ops Q S e fuel listed a w → wpAnyIn F n P md ops Q fuel listed a w
  | 0, _, _, _, h => h
  | fuel + 1, _, _, _, h => ⟨h.1, fun i hi => wpOpIn_mono (fun a' w' h' => anyIn_of_E fuel _ a' w' h'.2) (h.2 i hi)⟩

theorem anyE_first (hF : Free F P) (hnd : NoDefer ops) {i : Nat} {oi : Oper} {v : Value} (hi : ops[i]? = some oi) (hsel : ∀ (j : Nat) (o : Oper) cs b, ops[j]? = some o → o.op ≠ .select cs b)
    (hQ : ∀ c a w, Q (.panic c) (a.put oi.dst v) w → Q (.panic c) a w) (hie : i ≠ e) (hwe : Region.waitsFor md ops e i = true) :
    ∀ (fuel : Nat) (listed : Array Bool) (a : Act) (w : World),
      (∀ j oj, ops[j]? = some oj → j ≠ i → listed.getD j true = false → (∀ e ∈ oj.after, Region.binds md e = true → e.on ≠ i) → oi.apart ops oj = true) →
      i ∈ Region.ready md ops listed → YieldsIf P ops S oi v a → S w →
      anyE F n P md ops Q S e fuel (listed.setIfInBounds i true) (a.put oi.dst v) w → anyE F n P md ops Q S e (fuel + 1) listed a w := by
  intro fuel
  induction fuel with
  | zero =>
    intro listed a w _ hr hy hS H
    refine ⟨fun h => (by rw [h] at hr; cases hr), fun j hj => ?_⟩
    by_cases hji : j = i
    · subst hji; exact yieldsIf_opIn hF hnd hi hy hS ⟨.inr hS, H⟩
    · have := ready_mono hj hji
      rw [H.1] at this
      cases this
  | succ fuel ih =>
    intro listed a w hfree hr hy hS H
    refine ⟨fun h => (by rw [h] at hr; cases hr), fun j hj => ?_⟩
    by_cases hji : j = i
    · subst hji; exact yieldsIf_opIn hF hnd hi hy hS ⟨.inr hS, H⟩
    · have h1 := H.2 j (ready_mono hj hji)
      obtain ⟨hjun, oj, hoj, hall⟩ := mem_ready.1 hj
      have hnot : ∀ e ∈ oj.after, Region.binds md e = true → e.on ≠ i := fun e he hb heq => by
        have h1 := hall e he hb
        have h0 := (mem_ready.1 hr).1
        rw [heq] at h1
        rcases Nat.lt_or_ge i listed.size with h' | h'
        · simp [h'] at h0 h1; rw [h0] at h1; cases h1
        · simp [Array.getElem?_eq_none h'] at h1
      have hje : j ≠ e := by
        rintro rfl
        obtain ⟨oj', ho', e', he', hb', hon⟩ := Region.waitsFor_spec hwe
        have : oj' = oj := Option.some.inj (ho'.symm.trans hoj)
        subst this
        exact hnot e' he' hb' hon
      have h2 := opIn_putIf hF hnd hoj (hfree j oj hoj hji hjun hnot) (fun cs b => hsel i oi cs b hi) (fun cs b => hsel j oj cs b hoj) hQ hy h1
      have hfree' : ∀ k ok, ops[k]? = some ok → k ≠ i → (listed.setIfInBounds j true).getD k true = false →
          (∀ e ∈ ok.after, Region.binds md e = true → e.on ≠ i) → oi.apart ops ok = true := fun k ok hk hki hun hno => by
        refine hfree k ok hk hki ?_ hno
        by_cases hjk : j = k
        · subst hjk; exact hjun
        · rw [getD_set_ne true hjk] at hun; exact hun
      refine wpOpIn_mono (fun a' w' h3 => ?_) h2
      have hSw : S w' := h3.2.1.resolve_left hje
      refine ⟨.inr hSw, ih (listed.setIfInBounds j true) a' w' hfree' (ready_mono hr (Ne.symm hji)) h3.1 hSw ?_⟩
      rw [Array.setIfInBounds_comm _ _ hji]
      exact h3.2.2

/-- The first operations, one after the other: each yields its value in every world that meets S. -/
def heads (P : Program) (ops : Array Oper) (S : World → Prop) (Q : Act → Prop) : List Oper → Act → Prop
  | [], a => Q a
  | o :: rest, a => ∃ v, YieldsIf P ops S o v a ∧ heads P ops S Q rest (a.put o.dst v)
/-- The last operations, one after the other; behind each but number e S is to be shown. -/
def tailE (F : Fence) (n : Nat) (P : Program) (ops : Array Oper) (Q : Exit → Act → World → Prop) (S : World → Prop) (e : Nat) : Nat → List Oper → Act → World → Prop
  | _, [], a, w => Q .normal a w
  | k, o :: rest, a, w => if Region.wanted o (yielded ops a.tmps) then o.wpIn F n P a w (fun a' w' => (k = e ∨ S w') ∧ tailE F n P ops Q S e (k + 1) rest a' w') Q else S w ∧ tailE F n P ops Q S e (k + 1) rest (a.put o.dst undef) w

theorem heads_nil {Qh : Act → Prop} {a : Act} (h : Qh a) : heads P ops S Qh [] a := h
theorem heads_cons {Qh : Act → Prop} {a : Act} {o : Oper} {rest : List Oper} (v : Value) (hw : Region.wanted o (yielded ops a.tmps) = true) (hv : ∀ w, S w → (execOp a.eval o).run P w = .ok (.value v) w) (h : heads P ops S Qh rest (a.put o.dst v)) : heads P ops S Qh (o :: rest) a :=
  ⟨v, .inl ⟨hw, hv⟩, h⟩
theorem tailE_nil {k : Nat} {a : Act} {w : World} (h : Q .normal a w) : tailE F n P ops Q S e k [] a w := h
theorem tailE_cons {k : Nat} {o : Oper} {rest : List Oper} {a : Act} {w : World} (hw : Region.wanted o (yielded ops a.tmps) = true)
    (h : ∀ K : Act → World → Prop, (∀ a' w', (k = e ∨ S w') → tailE F n P ops Q S e (k + 1) rest a' w' → K a' w') → o.wpIn F n P a w K Q) : tailE F n P ops Q S e k (o :: rest) a w := by
  unfold tailE
  rw [if_pos hw]
  exact h _ (fun a' w' h1 h2 => ⟨h1, h2⟩)

theorem anyE_seq (hF : Free F P) : ∀ (l : List Oper) (k : Nat) (listed : Array Bool) (a : Act) (w : World), (∀ j, l[j]? = ops[k + j]?) →
    Region.seqB md ops l.length k listed = true → tailE F n P ops Q S e k l a w → anyE F n P md ops Q S e l.length listed a w
  | [], _, _, _, _, _, hB, h => ⟨by simpa [Region.seqB] using hB, h⟩
  | o :: l, k, listed, a, w, hl, hB, h => by
    have h0 : ops[k]? = some o := by simpa using (hl 0).symm
    simp only [List.length_cons, Region.seqB, Bool.and_eq_true, decide_eq_true_eq] at hB
    refine ⟨fun h1 => (by rw [hB.1] at h1; cases h1), fun i hi => ?_⟩
    rw [hB.1] at hi
    have hik : i = k := by simpa using hi
    subst hik
    have hw : wpOpIn F n P ops Q i (fun a' w' => (i = e ∨ S w') ∧ tailE F n P ops Q S e (i + 1) l a' w') a w := by
      unfold wpOpIn; simp only [h0]
      unfold tailE at h
      split
      · rename_i hw; rw [if_pos hw] at h; exact h
      · rename_i hw; rw [if_neg hw] at h; exact ⟨fun f _ => hF.fn f, .inr h.1, h.2⟩
    exact wpOpIn_mono (fun a' w' h' => ⟨h'.1, anyE_seq hF l (i + 1) _ a' w' (fun j => by have := hl (j + 1); simpa [Nat.add_assoc, Nat.add_comm 1 j] using this) hB.2 h'.2⟩) hw

def lexE (md : Region.Mode) (ops : Array Oper) (e g : Nat) : Nat → Nat → Array Bool → Bool
  | 0, k, listed => Region.seqB md ops g k listed
  | f + 1, k, listed => (Region.ready md ops listed).contains k && Region.free md ops listed k && Region.waitsFor md ops e k && (k != e) && lexE md ops e g f (k + 1) (listed.setIfInBounds k true)

theorem anyE_lex (hF : Free F P) (hnd : NoDefer ops) (hsel : Region.noSelect ops = true) (hQ : ∀ c a a' w, Q (.panic c) a w → Q (.panic c) a' w) {g : Nat} {w : World} (hS : S w) (tl : List Oper) (hg : tl.length = g) (m : Nat) (htl : ∀ j, tl[j]? = ops[m + j]?) :
    ∀ (l : List Oper) (k : Nat) (listed : Array Bool) (a : Act), (∀ j, j < l.length → l[j]? = ops[k + j]?) → k + l.length = m →
    lexE md ops e g l.length k listed = true → heads P ops S (fun a' => tailE F n P ops Q S e m tl a' w) l a → anyE F n P md ops Q S e (l.length + g) listed a w
  | [], k, listed, a, _, hk, hB, h => by
    have : k = m := by simpa using hk
    subst this
    rw [List.length_nil, Nat.zero_add, ← hg]
    exact anyE_seq hF tl k listed a w htl (by rw [hg]; exact hB) h
  | o :: l, k, listed, a, hl, hk, hB, h => by
    have h0 : ops[k]? = some o := by simpa using (hl 0 (by simp)).symm
    simp only [List.length_cons, lexE, Bool.and_eq_true, bne_iff_ne, ne_eq] at hB
    obtain ⟨⟨⟨⟨hr, hf⟩, hw⟩, hne⟩, hB'⟩ := hB
    obtain ⟨v, hy, hrest⟩ := h
    rw [List.length_cons, show l.length + 1 + g = (l.length + g) + 1 by omega]
    exact anyE_first hF hnd h0 (Region.noSelect_spec hsel) (fun c a' w' h => hQ c _ _ w' h) hne hw _ _ _ _ (Region.free_spec h0 hf) (by simpa using hr) hy hS
      (anyE_lex hF hnd hsel hQ hS tl hg m htl l (k + 1) _ _ (fun j hj => by have := hl (j + 1) (by simp; omega); simpa [Nat.add_assoc, Nat.add_comm 1 j] using this) (by simp only [List.length_cons] at hk; omega) hB' hrest)

theorem wpIn_region_heldE {id : Nat} {a : Act} {w : World} {l : List Oper} (k e : Nat) (S : World → Prop) (hF : Free F P) (hm : P.follows .mixedOrders = true) (hnd : noDefer l = true) (hsel : Region.noSelect l.toArray = true) (hk : k ≤ l.length)
    (hB : lexE .any l.toArray e (l.length - k) k 0 (Array.replicate l.toArray.size false) = true) (hQ : ∀ c a a' w, Q (.panic c) a w → Q (.panic c) a' w) (hS : S w.drew)
    (h : heads P l.toArray S (fun a' => tailE F n P l.toArray Q S e k (l.drop k) a' w.drew) (l.take k) a) : (Code.region id l.toArray true).wpIn F n P Q a w := by
  refine wpIn_region_any hm (anyIn_of_E (S := S) (e := e) _ _ _ _ ?_)
  have htl : (l.take k).length = k := by simp; omega
  have := anyE_lex (md := .any) (n := n) (Q := Q) (S := S) (e := e) hF (noDefer_spec hnd) hsel hQ (g := l.length - k) hS (l.drop k) (by simp) k (fun j => by simp [List.getElem?_drop]) (l.take k) 0 (Array.replicate l.toArray.size false) a
    (fun j hj => by have hj' : j < k := by rw [htl] at hj; exact hj
                    simp [hj']) (by simpa using htl) (by rw [htl]; exact hB) h
  rw [htl, show k + (l.length - k) = l.toArray.size by simp; omega] at this
  exact this
end
end Go.Proofs.Ytaegkhdkhgemmaa

namespace Go.Proofs.Ytaegkhdkhgemmaa
open Go.RowKit Num

set_option maxHeartbeats 1000000 in
theorem refCmp_any (A A' : Option Addr) (c c' L L' m n : Nat) (w : World) (h : Nums .u32 w A (dig B32 m)) (h' : Nums .u32 w A' (dig B32 n)) (hL : L = (dig B32 m).length) (hL' : L' = (dig B32 n).length) (hl : L ≤ 1000000000000) (hl' : L' ≤ 1000000000000) :
    Calls Try.prog 42 #[.slice A L c, .slice A' L' c'] w fun e w' => e = .returned (.int .i64 (cmpN m n)) ∧ Below w.heap.size w w' := by
  obtain ⟨r, hr⟩ : ∃ r, cmpN m n = r := ⟨_, rfl⟩
  rw [hr]
  by_cases hne : L = L'
  · subst hne
    have HL := Lib.hid hL
    have HL' := Lib.hid hL'
    have HR := Lib.hid hr
    clear hL hL' hr
    go_enter Try.func42, Try.ntmps42
    go_wp2
    go_loopw [5] (fun t wr => ∃ k : Nat, k ≤ L ∧ t = .int .i64 ((k : Int) - 1) ∧ Hid (m / B32 ^ k = n / B32 ^ k) ∧ Below w.heap.size w wr) (fun t _ => (intOf t + 1).toNat)
    case atStart => exact ⟨L, Nat.le_refl _, rfl, Lib.hid (by rw [div_pow_len b32_two (by rw [← HL.out]; exact Nat.le_refl _), div_pow_len b32_two (by rw [← HL'.out]; exact Nat.le_refl _)]), Below.refl _ _⟩
    case round =>
      obtain ⟨k, hk, rfl, hd, hb⟩ := hrel
      by_cases h0 : k = 0
      · subst h0
        have hmn : m = n := by have := hd.out; simpa using this
        have hr0 : r = 0 := by have := HR.out; rw [hmn, cmpN_eq] at this; exact this.symm
        have H0 := Lib.hid hr0
        clear hmn hr0
        go_wp2
        go_ret
        exact ⟨ret_i H0.out.symm, hb⟩
      · obtain ⟨j, rfl⟩ : ∃ j, k = j + 1 := ⟨k - 1, by omega⟩
        obtain ⟨g, off, x, rfl, hg, hx, hcx⟩ := (h.keep hb).at_ (i := j) (by have := HL.out; omega)
        obtain ⟨g', off', y, rfl, hg', hy, hcy⟩ := (h'.keep hb).at_ (i := j) (by have := HL'.out; omega)
        clear h h'
        rcases Nat.lt_trichotomy x y with hxy | hxy | hxy
        · have hc : r = -1 := by rw [← HR.out]; exact cmpN_lt (lt_of_digit b32_two hx hy hd.out hxy)
          have HC := Lib.hid hc
          clear hc hx hy
          go_wp2
          go_quiet (fail)
          go_wp2
          go_ret
          exact ⟨ret_i HC.out.symm, below_drewN hb _⟩
        · have hd' : m / B32 ^ j = n / B32 ^ j := eq_step b32_two hx (by rw [hxy]; exact hy) hd.out
          have HD := Lib.hid hd'
          have h1 : ¬ x < y := by omega
          have h2 : ¬ y < x := by omega
          clear hxy hd' hx hy
          go_wp2
          go_quiet (fail)
          go_wp2
          go_quiet (fail)
          go_wp2
          go_roundw
          case rel => exact ⟨j, by omega, by congr 1, HD, below_drewN hb _⟩
          case measure => simp [intOf]
        · have hc : r = 1 := by rw [← HR.out]; exact cmpN_gt (lt_of_digit b32_two hy hx hd.out.symm hxy)
          have HC := Lib.hid hc
          have h1 : ¬ x < y := by omega
          clear hc hx hy
          go_wp2
          go_quiet (fail)
          go_wp2
          go_quiet (fail)
          go_wp2
          go_ret
          exact ⟨ret_i HC.out.symm, below_drewN (below_drewN hb _) _⟩
  · have hn' : ((L : Int) != (L' : Int)) = true := by simp; omega
    have hc : cmpN L L' = r := by rw [← hr, hL, hL'] at *; exact cmp_of_len b32_two hne
    have HC := Lib.hid hc
    clear hc h h' hL hL' hr
    by_cases hlt : L < L'
    · have hr1 : r = -1 := by rw [← HC.out]; exact cmpN_lt hlt
      have H1 := Lib.hid hr1
      clear hr1
      go_enter Try.func42, Try.ntmps42
      go_wp2
      go_ret
      exact ⟨ret_i H1.out.symm, Below.refl _ _⟩
    · have hr1 : r = 1 := by rw [← HC.out]; exact cmpN_gt (by omega)
      have H1 := Lib.hid hr1
      clear hr1
      go_enter Try.func42, Try.ntmps42
      go_wp2
      go_ret
      exact ⟨ret_i H1.out.symm, Below.refl _ _⟩

theorem refCmp_call (a b : Value) (m n : Nat) (w : World) (ha : N32 w a m) (hb : N32 w b n) (hm : (dig B32 m).length ≤ 1000000000) (hn : (dig B32 n).length ≤ 1000000000) :
    Calls Try.prog 42 #[a, b] w fun e w' => e = .returned (.int .i64 (cmpN m n)) ∧ Below w.heap.size w w' := by
  obtain ⟨A, c, rfl, _, hA⟩ := ha
  obtain ⟨A', c', rfl, _, hA'⟩ := hb
  exact refCmp_any A A' c c' _ _ m n w hA hA' rfl rfl (by omega) (by omega)

set_option maxHeartbeats 400000 in
/-- at: limb i, or 0 beyond the end. -/
theorem at_any (A : Option Addr) (c L i : Nat) (xs : List Nat) (w : World) (h : Nums .u32 w A xs) (hlow : Low B32 xs) (hL : L = xs.length) :
    Calls Try.prog 86 #[.slice A L c, .int .i64 (i : Int)] w fun e w' => e = .returned (.int .u64 ((xs.getD i 0 : Nat) : Int)) ∧ w = w' := by
  obtain ⟨r, hr⟩ : ∃ r, xs.getD i 0 = r := ⟨_, rfl⟩
  rw [hr]
  by_cases hi : i < L
  · obtain ⟨g, off, x, rfl, hg, hx, hcx⟩ := h.at_ (i := i) (by omega)
    have e : r = x := by rw [← hr, List.getD_eq_getElem?_getD, hx]; rfl
    subst e
    have hxl : r < B32 := hlow r (List.mem_of_getElem? hx)
    have w1 : IntKind.u64.wrap (r : Int) = (r : Int) := by rw [IntKind.wrap_u64]; unfold B32 at hxl; omega
    have hii : (i : Int) < (L : Int) := by omega
    clear hr hx h hL hlow hxl
    go_enter Try.func86, Try.ntmps86
    go_wp2
    go_ret
    exact ⟨rfl, rfl⟩
  · have e : r = 0 := by rw [← hr, List.getD_eq_getElem?_getD, List.getElem?_eq_none (by omega)]; rfl
    subst e
    have hii : ¬ (i : Int) < (L : Int) := by omega
    clear hr h hL hlow
    go_enter Try.func86, Try.ntmps86
    go_wp2
    go_ret
    exact ⟨rfl, rfl⟩
end Go.Proofs.Ytaegkhdkhgemmaa

namespace Go.Proofs.Ytaegkhdkhgemmaa
open Go.RowKit Num

theorem val_take_getD (b : Nat) (xs : List Nat) (k : Nat) : val b (xs.take (k + 1)) = val b (xs.take k) + b ^ k * xs.getD k 0 := by
  by_cases hk : k < xs.length
  · rw [val_take_succ b xs k hk]
    simp [List.getD_eq_getElem?_getD, List.getElem?_eq_getElem hk]
  · rw [List.take_of_length_le (by omega), List.take_of_length_le (by omega)]
    simp [List.getD_eq_getElem?_getD, List.getElem?_eq_none (show xs.length ≤ k by omega)]
theorem getD_low {b : Nat} (hb : 0 < b) {xs : List Nat} (h : Low b xs) (k : Nat) : xs.getD k 0 < b := by
  rw [List.getD_eq_getElem?_getD]
  cases e : xs[k]? with
  | none => simpa using hb
  | some v => exact h v (List.mem_of_getElem? e)

/-- Digits that are appended, one after the other: the sum of the first k of both, but for the carry. -/
structure AddOut (xs ys : List Nat) (k : Nat) (os : List Nat) (c : Nat) : Prop where
  len : os.length = k
  low : Low B32 os
  le : c ≤ 1
  eq : val B32 os + B32 ^ k * c = val B32 (xs.take k) + val B32 (ys.take k)
theorem AddOut.start (xs ys : List Nat) : AddOut xs ys 0 [] 0 := ⟨rfl, Low.nil _, by omega, by simp [val]⟩
theorem AddOut.step {xs ys os : List Nat} {k c lo hi : Nat} (h : AddOut xs ys k os c) (hs : lo + B32 * hi = xs.getD k 0 + ys.getD k 0 + c) (hlo : lo < B32) (hhi : hi ≤ 1) :
    AddOut xs ys (k + 1) (os ++ [lo]) hi := by
  refine ⟨by simp [h.len], h.low.append (Low.cons hlo (Low.nil _)), hhi, ?_⟩
  rw [val_snoc, val_take_getD, val_take_getD, h.len]
  have e := h.eq
  have : B32 ^ k * (lo + B32 * hi) = B32 ^ k * (xs.getD k 0 + ys.getD k 0 + c) := by rw [hs]
  rw [Nat.pow_succ]
  grind
theorem AddOut.fin {xs ys os : List Nat} {k c : Nat} (h : AddOut xs ys k os c) (hx : xs.length ≤ k) (hy : ys.length ≤ k) : val B32 (os ++ [c]) = val B32 xs + val B32 ys := by
  have e := h.eq
  rw [List.take_of_length_le hx, List.take_of_length_le hy] at e
  rw [val_snoc, h.len]
  exact e

/-- A sum of three words that stay below 2^64, and its two halves: as the walk shows them. -/
theorem add3_ex (x y c : Nat) (hx : x < B32) (hy : y < B32) (hc : c ≤ 1) : ∃ s1 s lo hi : Nat,
    IntKind.u64.wrap ((x : Int) + (y : Int)) = (s1 : Int) ∧ IntKind.u64.wrap ((s1 : Int) + (c : Int)) = (s : Int) ∧ (s : Int) % 4294967296 = (lo : Int) ∧ (s : Int) / 4294967296 = (hi : Int) ∧
    IntKind.u32.wrap (lo : Int) = (lo : Int) ∧ (lo : Int) % 4294967296 = (lo : Int) ∧ IntKind.u64.wrap (hi : Int) = (hi : Int) ∧ lo + B32 * hi = x + y + c ∧ lo < B32 ∧ hi ≤ 1 := by
  unfold B32 at *
  refine ⟨x + y, x + y + c, (x + y + c) % 4294967296, (x + y + c) / 4294967296, ?_, ?_, by omega, by omega, ?_, by omega, ?_, by omega, by omega, by omega⟩
  · rw [IntKind.wrap_u64]; omega
  · rw [IntKind.wrap_u64]; omega
  · rw [IntKind.wrap_u32']; omega
  · rw [IntKind.wrap_u64]; omega

theorem refTrim_l (a : Value) (xs : List Nat) (w : World) (h : Limbs w a xs) (hlow : Low B32 xs) (hl : xs.length ≤ 1000000000) : Calls Try.prog 80 #[a] w (LsPost w (dig B32 (val B32 xs))) := by
  obtain ⟨A, c, rfl, _, _, hA⟩ := h
  exact refTrim_any A c _ xs w hA hlow rfl hl
theorem OwnLs.mono {B B' : Nat} {w : World} {v : Value} {ys : List Nat} (h : OwnLs B w v ys) (hB : B' ≤ B) : OwnLs B' w v ys := by
  obtain ⟨h1, h2⟩ := h
  refine ⟨h1, ?_⟩
  rcases h2 with h2 | ⟨g, c, cur, e, hg, r⟩
  · exact .inl h2
  · exact .inr ⟨g, c, cur, e, by omega, r⟩

set_option maxHeartbeats 2000000 in
set_option maxRecDepth 100000 in
theorem refAdd_any (A A' : Option Addr) (c c' L L' : Nat) (xs ys : List Nat) (w : World) (hA : Nums .u32 w A xs) (hA' : Nums .u32 w A' ys) (hx : Low B32 xs) (hy : Low B32 ys) (hL : L = xs.length) (hL' : L' = ys.length)
    (hl : L ≤ 1000000) (hl' : L' ≤ 1000000) : Calls Try.prog 43 #[.slice A L c, .slice A' L' c'] w (LsPost w (dig B32 (val B32 xs + val B32 ys))) := by
  obtain ⟨i0, hi, hz0, hz1, hz2⟩ := info_parts info56
  have ho := own_empty w 56
  have hbA := below_new w (.cells #[] 56)
  have HO := Lib.hid ho
  have HL := Lib.hid hL
  have HL' := Lib.hid hL'
  clear ho hL hL'
  obtain ⟨ds, hds⟩ : ∃ ds, dig B32 (val B32 xs + val B32 ys) = ds := ⟨_, rfl⟩
  rw [hds]
  have HDS := Lib.hid hds
  clear hds
  go_enter Try.func43, Try.ntmps43
  go_wp2
  go_loopw [5, 6, 7] (fun out q t wr => ∃ (k cy : Nat) (os : List Nat), (k ≤ L ∨ k ≤ L') ∧ t = .int .i64 (k : Int) ∧ q = .int .u64 (cy : Int) ∧ AddOut xs ys k os cy ∧ wr.ownsRow w.heap.size 56 1 out k (ints .u32 os) ∧ Below w.heap.size w wr) (fun _ _ t _ => L + L' - (intOf t).toNat)
  case atStart => exact ⟨0, 0, [], .inl (Nat.zero_le _), rfl, rfl, AddOut.start xs ys, HO.out, hbA⟩
  case round =>
    clear hbA HO
    obtain ⟨k, cy, os, hk, rfl, rfl, hst, hown, hbl⟩ := hrel
    have hk1 : k ≤ 1000000 := by omega
    by_cases hlt : k < L ∨ k < L'
    · have ha := at_any A c L k xs wr (hA.keep hbl) hx HL.out
      have hb := at_any A' c' L' k ys wr (hA'.keep hbl) hy HL'.out
      obtain ⟨s1, s, lo, hi', w1, w2, w3, w4, w5, w6, w7, hs, hlo, hhi⟩ := add3_ex _ _ cy (getD_low b32_pos hx k) (getD_low b32_pos hy k) hst.le
      have hst' := hst.step hs hlo hhi
      generalize xs.getD k 0 = x at *
      generalize ys.getD k 0 = y at *
      have HA := Lib.hid ha
      have HB := Lib.hid hb
      have HST := Lib.hid hst'
      have HS := Lib.hid hs
      clear ha hb hst' hA hA' hx hy hs hlo hst
      by_cases h1 : k < L
      all_goals
        go_wp2_with (fail)
        refine HA.out.mono ?_
        rintro e w9 ⟨rfl, rfl⟩
        go_wp2_with (fail)
        refine HB.out.mono ?_
        rintro e w9 ⟨rfl, rfl⟩
        go_wp2_with (at_builtin
                     refine wpList_append_own _ rfl _ _ 35 rfl w.heap.size 56 i0 (.int .u32 0) 1 4 Try.underlying35 hi hz0 hz1 hz2 rfl (by decide) _ k _ rfl (hown.alloc _) ⟨wr.heap.size, 0, none⟩ 1 1 [.int .u32 (lo : Int)] rfl rfl (cell_one_new _ _ _) (ints_one .u32 [lo]) ?c4 ?c5 (Nat.le_trans hbl.size (by simp)) ?_)
        case c4 => unfold maxLen; omega
        case c5 => omega
        intro v' w8 hown1 hgr1 _
        have hb1 : Below w.heap.size w w8 := (hbl.alloc hbl.size _).grown hgr1 (Nat.le_trans hbl.size (by simp)) (fun g' hg' => by
          rcases hown.2 with ⟨rfl, _⟩ | ⟨g2, cap, cur, rfl, hg2, _⟩
          · simp [Value.ownBlock] at hg'
          · simp [Value.ownBlock] at hg'; omega)
        have H1 := Lib.hid hown1
        have H0 := Lib.hid hown
        clear hown1 hown
        go_wp2
        go_roundw
        case rel => exact ⟨k + 1, hi', os ++ [lo], by omega, by go_num, rfl, HST.out, by have := H1.out; simpa [ints] using this, hb1⟩
        case measure => simp [intOf]; omega
    · have hst' := hst.fin (by have := HL.out; omega) (by have := HL'.out; omega)
      have hlow2 : Low B32 (os ++ [cy]) := hst.low.append (Low.cons (by have := hst.le; unfold B32; omega) (Low.nil _))
      have hlen2 : (os ++ [cy]).length = k + 1 := by simp [hst.len]
      have hcy := hst.le
      have w1 : IntKind.u32.wrap (cy : Int) = (cy : Int) := by rw [IntKind.wrap_u32']; omega
      have w2 : (cy : Int) % 4294967296 = (cy : Int) := by omega
      have HV := Lib.hid hst'
      have HLO := Lib.hid hlow2
      have HLE := Lib.hid hlen2
      have hA1 : ¬ k < L := by omega
      have hA2 : ¬ k < L' := by omega
      clear hst' hst hA hA' hx hy hlt hlow2 hlen2 hk
      go_wp2_with (at_builtin
                   refine wpList_append_own _ rfl _ _ 35 rfl w.heap.size 56 i0 (.int .u32 0) 1 4 Try.underlying35 hi hz0 hz1 hz2 rfl (by decide) _ k _ rfl (hown.alloc _) ⟨wr.heap.size, 0, none⟩ 1 1 [.int .u32 (cy : Int)] rfl rfl (cell_one_new _ _ _) (ints_one .u32 [cy]) ?c4 ?c5 (Nat.le_trans hbl.size (by simp)) ?_)
      case c4 => unfold maxLen; omega
      case c5 => omega
      intro v' w8 hown1 hgr1 _
      have hb1 : Below w.heap.size w w8 := (hbl.alloc hbl.size _).grown hgr1 (Nat.le_trans hbl.size (by simp)) (fun g' hg' => by
        rcases hown.2 with ⟨rfl, _⟩ | ⟨g2, cap, cur, rfl, hg2, _⟩
        · simp [Value.ownBlock] at hg'
        · simp [Value.ownBlock] at hg'; omega)
      have hls : OwnLs w.heap.size w8 v' (os ++ [cy]) := by
        unfold OwnLs
        rw [HLE.out]
        simpa [ints] using hown1
      have hlim := hls.limbs (by rw [HLE.out]; omega)
      have htr := refTrim_l v' (os ++ [cy]) w8 hlim HLO.out (by rw [HLE.out]; omega)
      rw [HV.out, HDS.out] at htr
      have HT := Lib.hid htr
      clear htr hlim hls hown1 hown
      go_wp2_with (go_at_call 80; refine HT.out.mono ?_; rintro e w9 ⟨v9, rfl, hv9, hb9⟩)
      go_ret
      exact ⟨_, rfl, hv9.mono hb1.size, below_at hb1 (Nat.le_refl _) hb9⟩

theorem refAdd_call (a b : Value) (m n : Nat) (w : World) (ha : N32 w a m) (hb : N32 w b n) (hm : (dig B32 m).length ≤ 1000000) (hn : (dig B32 n).length ≤ 1000000) : Calls Try.prog 43 #[a, b] w (LsPost w (dig B32 (m + n))) := by
  obtain ⟨A, c, rfl, _, hA⟩ := ha
  obtain ⟨A', c', rfl, _, hA'⟩ := hb
  have := refAdd_any A A' c c' _ _ _ _ w hA hA' (low_dig b32_two m) (low_dig b32_two n) rfl rfl hm hn
  rw [val_dig b32_two, val_dig b32_two] at this
  exact this
end Go.Proofs.Ytaegkhdkhgemmaa

namespace Go.Proofs.Ytaegkhdkhgemmaa
open Go.RowKit Num

structure SubOut (xs ys : List Nat) (k : Nat) (os : List Nat) (c : Nat) : Prop where
  len : os.length = k
  low : Low B32 os
  le : c ≤ 1
  eq : val B32 os + val B32 (ys.take k) = val B32 (xs.take k) + B32 ^ k * c
theorem SubOut.start (xs ys : List Nat) : SubOut xs ys 0 [] 0 := ⟨rfl, Low.nil _, by omega, by simp [val]⟩
theorem SubOut.step {xs ys os : List Nat} {k c lo hi : Nat} (h : SubOut xs ys k os c) (hs : lo + ys.getD k 0 + c = xs.getD k 0 + B32 * hi) (hlo : lo < B32) (hhi : hi ≤ 1) :
    SubOut xs ys (k + 1) (os ++ [lo]) hi := by
  refine ⟨by simp [h.len], h.low.append (Low.cons hlo (Low.nil _)), hhi, ?_⟩
  rw [val_snoc, val_take_getD, val_take_getD, h.len]
  have e := h.eq
  have : B32 ^ k * (lo + ys.getD k 0 + c) = B32 ^ k * (xs.getD k 0 + B32 * hi) := by rw [hs]
  rw [Nat.pow_succ]
  grind
theorem SubOut.fin {xs ys os : List Nat} {k c : Nat} (h : SubOut xs ys k os c) (hx : xs.length ≤ k) (hy : ys.length ≤ k) (hle : val B32 ys ≤ val B32 xs) (hylow : Low B32 ys) : val B32 os = val B32 xs - val B32 ys := by
  have e := h.eq
  rw [List.take_of_length_le hx, List.take_of_length_le hy] at e
  have h1 := val_lt B32 os h.low
  rw [h.len] at h1
  have h5 : c = 0 := by
    rcases Nat.eq_zero_or_pos c with h0 | h0
    · exact h0
    · have : B32 ^ k * 1 ≤ B32 ^ k * c := Nat.mul_le_mul_left _ h0
      have h2 := val_lt B32 ys hylow
      have h3 : B32 ^ ys.length ≤ B32 ^ k := Nat.pow_le_pow_right b32_pos hy
      omega
  subst h5
  simp at e
  omega

theorem sub3_ex (x y c : Nat) (hx : x < B32) (hy : y < B32) (hc : c ≤ 1) : ∃ s1 s2 s lo q hi : Nat,
    IntKind.u64.wrap (4294967296 + (x : Int)) = (s1 : Int) ∧ IntKind.u64.wrap ((s1 : Int) - (y : Int)) = (s2 : Int) ∧ IntKind.u64.wrap ((s2 : Int) - (c : Int)) = (s : Int) ∧ (s : Int) % 4294967296 = (lo : Int) ∧ (s : Int) / 4294967296 = (q : Int) ∧
    IntKind.u32.wrap (lo : Int) = (lo : Int) ∧ (lo : Int) % 4294967296 = (lo : Int) ∧ IntKind.u64.wrap (q : Int) = (q : Int) ∧ IntKind.u64.wrap (1 - (q : Int)) = (hi : Int) ∧ lo + y + c = x + B32 * hi ∧ lo < B32 ∧ hi ≤ 1 := by
  unfold B32 at *
  refine ⟨4294967296 + x, 4294967296 + x - y, 4294967296 + x - y - c, (4294967296 + x - y - c) % 4294967296, (4294967296 + x - y - c) / 4294967296, 1 - (4294967296 + x - y - c) / 4294967296, ?_, ?_, ?_, by omega, by omega, ?_, by omega, ?_, ?_, by omega, by omega, by omega⟩
  · rw [IntKind.wrap_u64]; omega
  · rw [IntKind.wrap_u64]; omega
  · rw [IntKind.wrap_u64]; omega
  · rw [IntKind.wrap_u32']; omega
  · rw [IntKind.wrap_u64]; omega
  · rw [IntKind.wrap_u64]; omega

set_option maxHeartbeats 2000000 in
set_option maxRecDepth 100000 in
theorem refSub_any (A A' : Option Addr) (c c' L L' : Nat) (xs ys : List Nat) (w : World) (hA : Nums .u32 w A xs) (hA' : Nums .u32 w A' ys) (hx : Low B32 xs) (hy : Low B32 ys) (hL : L = xs.length) (hL' : L' = ys.length)
    (hl : L ≤ 1000000) (hle' : L' ≤ L) (hle : val B32 ys ≤ val B32 xs) : Calls Try.prog 44 #[.slice A L c, .slice A' L' c'] w (LsPost w (dig B32 (val B32 xs - val B32 ys))) := by
  obtain ⟨i0, hi, hz0, hz1, hz2⟩ := info_parts info56
  have ho := own_empty w 56
  have hbA := below_new w (.cells #[] 56)
  have HO := Lib.hid ho
  have HL := Lib.hid hL
  have HL' := Lib.hid hL'
  have HLE := Lib.hid hle
  have HY := Lib.hid hy
  clear ho hL hL' hle
  obtain ⟨ds, hds⟩ : ∃ ds, dig B32 (val B32 xs - val B32 ys) = ds := ⟨_, rfl⟩
  rw [hds]
  have HDS := Lib.hid hds
  clear hds
  go_enter Try.func44, Try.ntmps44
  go_wp2
  go_loopw [5, 6, 7] (fun out q t wr => ∃ (k cy : Nat) (os : List Nat), k ≤ L ∧ t = .int .i64 (k : Int) ∧ q = .int .u64 (cy : Int) ∧ SubOut xs ys k os cy ∧ wr.ownsRow w.heap.size 56 1 out k (ints .u32 os) ∧ Below w.heap.size w wr) (fun _ _ t _ => L - (intOf t).toNat)
  case atStart => exact ⟨0, 0, [], Nat.zero_le _, rfl, rfl, SubOut.start xs ys, HO.out, hbA⟩
  case round =>
    clear hbA HO
    obtain ⟨k, cy, os, hk, rfl, rfl, hst, hown, hbl⟩ := hrel
    by_cases hlt : k < L
    · have ha := at_any A c L k xs wr (hA.keep hbl) hx HL.out
      have hb := at_any A' c' L' k ys wr (hA'.keep hbl) hy HL'.out
      obtain ⟨s1, s2, s, lo, qq, hi', w1, w2, w3, w4, w5, w6, w7, w8, w9, hs, hlo, hhi⟩ := sub3_ex _ _ cy (getD_low b32_pos hx k) (getD_low b32_pos hy k) hst.le
      have hst' := hst.step hs hlo hhi
      generalize xs.getD k 0 = x at *
      generalize ys.getD k 0 = y at *
      have HA := Lib.hid ha
      have HB := Lib.hid hb
      have HST := Lib.hid hst'
      have HS := Lib.hid hs
      clear ha hb hst' hA hA' hx hy hs hlo hst
      go_wp2_with (fail)
      refine HA.out.mono ?_
      rintro e wq ⟨rfl, rfl⟩
      go_wp2_with (fail)
      refine HB.out.mono ?_
      rintro e wq ⟨rfl, rfl⟩
      go_wp2_with (at_builtin
                   refine wpList_append_own _ rfl _ _ 35 rfl w.heap.size 56 i0 (.int .u32 0) 1 4 Try.underlying35 hi hz0 hz1 hz2 rfl (by decide) _ k _ rfl (hown.alloc _) ⟨wr.heap.size, 0, none⟩ 1 1 [.int .u32 (lo : Int)] rfl rfl (cell_one_new _ _ _) (ints_one .u32 [lo]) ?c4 ?c5 (Nat.le_trans hbl.size (by simp)) ?_)
      case c4 => unfold maxLen; omega
      case c5 => omega
      intro v' wv hown1 hgr1 _
      have hb1 : Below w.heap.size w wv := (hbl.alloc hbl.size _).grown hgr1 (Nat.le_trans hbl.size (by simp)) (fun g' hg' => by
        rcases hown.2 with ⟨rfl, _⟩ | ⟨g2, cap, cur, rfl, hg2, _⟩
        · simp [Value.ownBlock] at hg'
        · simp [Value.ownBlock] at hg'; omega)
      have H1 := Lib.hid hown1
      have H0 := Lib.hid hown
      clear hown1 hown
      go_wp2
      go_roundw
      case rel => exact ⟨k + 1, hi', os ++ [lo], by omega, by go_num, rfl, HST.out, by have := H1.out; simpa [ints] using this, hb1⟩
      case measure => simp [intOf]; omega
    · have hkL : k = L := by omega
      subst hkL
      have hst' := hst.fin (by have := HL.out; omega) (by have := HL'.out; omega) HLE.out HY.out
      have hlen2 : os.length = k := hst.len
      have hls : OwnLs w.heap.size wr u5 os := by
        unfold OwnLs
        rw [hlen2]
        exact hown
      have hlim := hls.limbs (by rw [hlen2]; omega)
      have htr := refTrim_l u5 os wr hlim hst.low (by rw [hlen2]; omega)
      rw [hst', HDS.out] at htr
      have HT := Lib.hid htr
      clear htr hlim hls hown hst' hst hA hA' hx hy hlt hlen2 hk
      go_wp2_with (go_at_call 80; refine HT.out.mono ?_; rintro e w9 ⟨v9, rfl, hv9, hb9⟩)
      go_ret
      exact ⟨_, rfl, hv9.mono hbl.size, below_at hbl (Nat.le_refl _) hb9⟩

theorem refSub_call (a b : Value) (m n : Nat) (w : World) (ha : N32 w a m) (hb : N32 w b n) (hm : (dig B32 m).length ≤ 1000000) (hle : n ≤ m) : Calls Try.prog 44 #[a, b] w (LsPost w (dig B32 (m - n))) := by
  obtain ⟨A, c, rfl, _, hA⟩ := ha
  obtain ⟨A', c', rfl, _, hA'⟩ := hb
  have := refSub_any A A' c c' _ _ _ _ w hA hA' (low_dig b32_two m) (low_dig b32_two n) rfl rfl hm (dig_len_le b32_two (Nat.lt_of_le_of_lt hle (dig_len_lt b32_two))) (by rw [val_dig b32_two, val_dig b32_two]; exact hle)
  rw [val_dig b32_two, val_dig b32_two] at this
  exact this
end Go.Proofs.Ytaegkhdkhgemmaa

namespace Go.Proofs.Ytaegkhdkhgemmaa
open Go.RowKit Num

/-- The length in a slot: for a loop's measure. -/
def lenOf : Value → Nat | .slice _ n _ => n | _ => 0

theorem limbs_cut {w : World} {A : Option Addr} {c : Nat} {xs : List Nat} (h : Limbs w (.slice A xs.length c) xs) : ∀ i, 0 < xs.length → i < xs.length → ∃ g off v, A = some ⟨g, off, none⟩ ∧ g < w.heap.size ∧ xs[i]? = some v ∧ w.cell? ⟨g, off + i, none⟩ = some (.int .u32 (v : Int)) := by
  intro i _ hi
  obtain ⟨A', c', e, _, _, hn⟩ := h
  injection e with e1 e2 e3
  subst e1
  exact hn.at_ hi

set_option maxHeartbeats 1000000 in
set_option maxRecDepth 100000 in
/-- whole: cut, then without the zeros at the end. -/
theorem whole_any (A : Option Addr) (c L n : Nat) (xs : List Nat) (w : World) (hA : Nums .u32 w A xs) (hlow : Low B32 xs) (hL : L = xs.length) (hc : L ≤ c) (hnil : A = none → c = 0) (hn : n ≤ 1000) :
    Calls Try.prog 69 #[.slice A L c, .int .i64 (n : Int)] w fun e w' => ∃ v, e = .returned v ∧ N32 w' v (val B32 (xs.take n)) ∧ Below w.heap.size w w' := by
  have hcut := cut_any A c L n xs w hA hL hc hnil hn
  have hlow' := hlow.take n
  have hlen : (xs.take n).length ≤ 1000 := by rw [List.length_take]; omega
  generalize xs.take n = ys at *
  obtain ⟨r, hr⟩ : ∃ r, val B32 ys = r := ⟨_, rfl⟩
  have fin : ∀ k, k ≤ ys.length → ZeroFrom ys k → (∀ v, 0 < k → ys[k - 1]? = some v → v ≠ 0) → ys.take k = dig B32 r := fun k hk hz hn => by rw [← hr]; exact trim_val b32_two hlow' hk hz hn
  have FIN := Lib.hid fin
  have HC := Lib.hid hcut
  have HR := Lib.hid hr
  rw [hr]
  clear hcut hA hL hnil fin hr
  go_enter Try.func69, Try.ntmps69
  go_wp2_with (go_at_call 26
               refine HC.out.mono ?_
               rintro e w1 ⟨v1, rfl, hv1, hb1⟩
               obtain ⟨A1, c1, he1, hc1, hn1⟩ := own_reads hv1
               have HV1 := Lib.hid hv1
               clear hv1
               subst he1)
  go_loop [0] (fun t => ∃ k : Nat, k ≤ ys.length ∧ t = .slice A1 k c1 ∧ ZeroFrom ys k) (fun t => lenOf t)
  case atStart => exact ⟨ys.length, Nat.le_refl _, rfl, fun i v hv hi => by have := (List.getElem?_eq_some_iff.1 hv).1; omega⟩
  case round =>
    obtain ⟨k, hk, rfl, hz⟩ := hrel
    have hex : (∃ v, 0 < k ∧ ys[k - 1]? = some v ∧ v = 0) ∨ (∀ v, 0 < k → ys[k - 1]? = some v → v ≠ 0) := by
      by_cases hh : ∃ v, 0 < k ∧ ys[k - 1]? = some v ∧ v = 0
      · exact .inl hh
      · exact .inr fun v h1 h2 h3 => hh ⟨v, h1, h2, h3⟩
    rcases hex with ⟨v, hp, hv, hv0⟩ | hfin
    · obtain ⟨g, off, v', rfl, hg, hv', hc2⟩ := hn1.at_ (i := k - 1) (by omega)
      have e : v' = v := by rw [hv] at hv'; injection hv' with hv'; exact hv'.symm
      subst e
      have hq : ((v' : Int) == 0) = true := by simp [hv0]
      have HV := Lib.hid hv
      have H0 := Lib.hid hv0
      clear hv hv' hv0 hn1
      go_wp2
      go_round
      case rel =>
        refine ⟨k - 1, by omega, rfl, fun i u hu hi => ?_⟩
        by_cases e : i = k - 1
        · have := HV.out; rw [e] at hu; rw [hu] at this; injection this with this; rw [this]; exact H0.out
        · exact hz i u hu (by omega)
      case measure => simp [lenOf]; omega
    · have htk := FIN.out k hk hz hfin
      have hlen2 : (dig B32 r).length = k := by rw [← htk, List.length_take]; omega
      have hnum : Nums .u32 w1 A1 (dig B32 r) := by rw [← htk]; exact hn1.take k
      have hres : N32 w1 (.slice A1 k c1) r := ⟨A1, c1, by rw [hlen2], by rw [hlen2]; omega, hnum⟩
      have HRES := Lib.hid hres
      clear htk hlen2 hnum hres
      by_cases hp : 0 < k
      · obtain ⟨g, off, v, rfl, hg, hv, hc2⟩ := hn1.at_ (i := k - 1) (by omega)
        have hq : ((v : Int) == 0) = false := by have := hfin v hp hv; simp; omega
        have HV := Lib.hid hv
        clear hv hn1 hfin
        go_wp2
        go_ret
        exact ⟨_, rfl, HRES.out, hb1⟩
      · clear hn1 hfin
        go_wp2
        go_ret
        exact ⟨_, rfl, HRES.out, hb1⟩
end Go.Proofs.Ytaegkhdkhgemmaa

namespace Go.Proofs.Ytaegkhdkhgemmaa
open Go.RowKit Num

set_option maxHeartbeats 2000000 in
set_option maxRecDepth 100000 in
theorem adds_bad (A A' : Option Addr) (c c' L L' : Nat) (xs ys : List Nat) (w : World) (hA : Nums .u32 w A xs) (hA' : Nums .u32 w A' ys) (hL : L = xs.length) (hL' : L' = ys.length) (hc : L ≤ c) (hc' : L' ≤ c') (hnil : A = none → c = 0) (hnil' : A' = none → c' = 0)
    (hbad : chk2 (xs.take 60) (ys.take 60) ≠ 0) : Calls Try.prog 4 #[.slice A L c, .slice A' L' c'] w (LivesPost w) := by
  have hcut := fun w' (h : Below w.heap.size w w') => cut_any A c L 60 xs w' (hA.keep h) hL hc hnil (by omega)
  have hcut' := fun w' (h : Below w.heap.size w w') => cut_any A' c' L' 60 ys w' (hA'.keep h) hL' hc' hnil' (by omega)
  have l1 : (xs.take 60).length ≤ 60 := by rw [List.length_take]; omega
  have l2 : (ys.take 60).length ≤ 60 := by rw [List.length_take]; omega
  generalize xs.take 60 = us at *
  generalize ys.take 60 = vs at *
  have hlu : ∀ B w' a, OwnLs B w' a us → Limbs w' a us := fun B w' a h => h.limbs (by omega)
  have hlv : ∀ B w' a, OwnLs B w' a vs → Limbs w' a vs := fun B w' a h => h.limbs (by omega)
  have h37 := fun a b w h k => add_bad a b us vs w h k hbad
  have h38 := fun a b w h k => sub_bad a b us vs w h k hbad
  have h39 := fun a b w h k => cmp_bad a b us vs w h k hbad
  have h40 := fun a b w h k => both_any a b us vs w h k
  generalize chk2 us vs = r at *
  have hq : (r != 0) = true := by simp [hbad]
  have hq0 : (r == r) = true := by simp
  have h41 := fun b w => is_err b r w hbad
  have HC := Lib.hid hcut
  have HC' := Lib.hid hcut'
  have HLU := Lib.hid hlu
  have HLV := Lib.hid hlv
  have H37 := Lib.hid h37
  have H38 := Lib.hid h38
  have H39 := Lib.hid h39
  have H40 := Lib.hid h40
  have H41 := Lib.hid h41
  have HB := Lib.hid hbad
  clear hcut hcut' hlu hlv h37 h38 h39 h40 h41 hbad hA hA' hL hL' hnil hnil' l1 l2
  go_enter Try.func4, Try.ntmps4
  go_wp2_with (fail)
  refine (HC.out _ (Below.refl _ _)).mono ?_
  rintro e w1 ⟨va, rfl, hva, hb1⟩
  have ka := HLU.out _ _ _ hva
  go_wp2_with (fail)
  refine (HC'.out _ hb1).mono ?_
  rintro e w2 ⟨vb, rfl, hvb, hb2⟩
  have kb := HLV.out _ _ _ hvb
  have b2 := below_at hb1 (Nat.le_refl _) hb2
  have ka2 := ka.keep hb2
  go_wp2_with (first
    | (go_at_call 37; refine (H37.out _ _ _ ka2 kb).mono ?_; rintro e w3 ⟨rfl, hb3⟩
       have b3 := below_at b2 (Nat.le_refl _) hb3
       have ka3 := ka2.keep hb3
       have kb3 := kb.keep hb3)
    | (go_at_call 38; refine (H38.out _ _ _ ka3 kb3).mono ?_; rintro e w4 ⟨rfl, hb4⟩
       have b4 := below_at b3 (Nat.le_refl _) hb4
       have ka4 := ka3.keep hb4
       have kb4 := kb3.keep hb4)
    | (go_at_call 39; refine (H39.out _ _ _ ka4 kb4).mono ?_; rintro e w5 ⟨rfl, hb5⟩
       have b5 := below_at b4 (Nat.le_refl _) hb5
       have ka5 := ka4.keep hb5
       have kb5 := kb4.keep hb5)
    | (go_at_call 40; refine (H40.out _ _ _ ka5 kb5).mono ?_; rintro e w6 ⟨rfl, rfl⟩)
    | (go_at_call 30; refine (lives_any _).mono ?_; rintro e w7 ⟨rfl, hb7⟩
       have b7 := below_at b5 (Nat.le_refl _) hb7))
  refine (H41.out _ _).mono ?_
  rintro e w8 ⟨rfl, hb8⟩
  have b8 := below_at b7 (Nat.le_refl _) hb8
  go_wp2_with (fail)
  refine (H41.out _ _).mono ?_
  rintro e w9 ⟨rfl, hb9⟩
  have b9 := below_at b8 (Nat.le_refl _) hb9
  go_wp2
  go_ret
  exact ⟨rfl, b9⟩

theorem sum_len {m n : Nat} (hm : (dig B32 m).length ≤ 60) (hn : (dig B32 n).length ≤ 60) : (dig B32 (m + n)).length ≤ 61 := by
  have h1 := Nat.lt_of_lt_of_le (dig_len_lt b32_two (n := m)) (Nat.pow_le_pow_right b32_pos hm)
  have h2 := Nat.lt_of_lt_of_le (dig_len_lt b32_two (n := n)) (Nat.pow_le_pow_right b32_pos hn)
  exact dig_len_le b32_two (two_pow_lt b32_two h1 h2)
theorem bits_of_len {n K : Nat} (h : (dig B32 n).length ≤ K) : nbits n ≤ 32 * K := by
  refine nbits_le (Nat.lt_of_lt_of_le (dig_len_lt b32_two) ?_)
  rw [Nat.pow_mul]
  exact Nat.pow_le_pow_right b32_pos h
theorem sum_small {m n : Nat} (hm : (dig B32 m).length ≤ 60) (hn : (dig B32 n).length ≤ 60) : nbits (m + n) ≤ 8388608 := Nat.le_trans (bits_of_len (sum_len hm hn)) (by omega)

set_option maxHeartbeats 2000000 in
set_option maxRecDepth 100000 in
theorem adds_lt (A A' : Option Addr) (c c' L L' m n : Nat) (xs ys : List Nat) (w : World) (hA : Nums .u32 w A xs) (hA' : Nums .u32 w A' ys) (hL : L = xs.length) (hL' : L' = ys.length) (hc : L ≤ c) (hc' : L' ≤ c') (hnil : A = none → c = 0) (hnil' : A' = none → c' = 0)
    (hm : xs.take 60 = dig B32 m) (hn : ys.take 60 = dig B32 n) (hcmp : m < n) : Calls Try.prog 4 #[.slice A L c, .slice A' L' c'] w (LivesPost w) := by
  have hcut := fun w' (h : Below w.heap.size w w') => cut_any A c L 60 xs w' (hA.keep h) hL hc hnil (by omega)
  have hcut' := fun w' (h : Below w.heap.size w w') => cut_any A' c' L' 60 ys w' (hA'.keep h) hL' hc' hnil' (by omega)
  have l1 : (xs.take 60).length ≤ 60 := by rw [List.length_take]; omega
  have l2 : (ys.take 60).length ≤ 60 := by rw [List.length_take]; omega
  rw [hm] at hcut l1
  rw [hn] at hcut' l2
  have hp := sum_small l1 l2
  have ls := sum_len l1 l2
  have hlu : ∀ B w' a, OwnLs B w' a (dig B32 m) → Limbs w' a (dig B32 m) := fun B w' a h => h.limbs (by omega)
  have hlv : ∀ B w' a, OwnLs B w' a (dig B32 n) → Limbs w' a (dig B32 n) := fun B w' a h => h.limbs (by omega)
  have h37 := fun a b w (h : Limbs w a (dig B32 m)) (k : Limbs w b (dig B32 n)) => add_ok a b m n w h.is k.is (by omega) (by omega) hp
  have h38 := fun a b w (h : Limbs w a (dig B32 m)) (k : Limbs w b (dig B32 n)) => sub_range a b m n w h.is k.is (by omega) (by omega) hcmp
  have h39 := fun a b w (h : Limbs w a (dig B32 m)) (k : Limbs w b (dig B32 n)) => cmp_ok a b m n w h.is k.is (by omega) (by omega)
  have h40 := fun a b w h k => both_any a b (dig B32 m) (dig B32 n) w h k
  have h42 := fun a b w (h : Limbs w a (dig B32 m)) (k : Limbs w b (dig B32 n)) => refCmp_call a b m n w h.is k.is (by omega) (by omega)
  have h43 := fun a b w (h : Limbs w a (dig B32 m)) (k : Limbs w b (dig B32 n)) => refAdd_call a b m n w h.is k.is (by omega) (by omega)
  have h41 := fun a b w (h : N32 w a (m + n)) (k : OwnLs w.heap.size w b (dig B32 (m + n))) => is_ok a b (m + n) w h (k.limbs (by omega)) (by omega)
  have h41b : ∀ B a b w, N32 w a (m + n) → OwnLs B w b (dig B32 (m + n)) → Calls Try.prog 41 #[a, .int .i64 0, b, .int .i64 0] w (LivesPost w) := fun B a b w h k => is_ok a b (m + n) w h (k.limbs (by omega)) (by omega)
  have h41e := fun b w => is_err b 5 w (by omega)
  rw [chk2, if_pos (chk_dig (by omega)), chk_dig (by omega)] at h40
  have hcv : cmpN m n = -1 := cmpN_lt hcmp
  generalize cmpN m n = r at *
  have hq : (r != r) = false := by simp
  subst hcv
  have HC := Lib.hid hcut
  have HC' := Lib.hid hcut'
  have HLU := Lib.hid hlu
  have HLV := Lib.hid hlv
  have H37 := Lib.hid h37
  have H38 := Lib.hid h38
  have H39 := Lib.hid h39
  have H40 := Lib.hid h40
  have H41 := Lib.hid h41b
  have H42 := Lib.hid h42
  have H43 := Lib.hid h43
  have H41E := Lib.hid h41e
  clear hcut hcut' hlu hlv h37 h38 h39 h40 h41 h41b h42 h43 hA hA' hL hL' hnil hnil' l1 l2 hp ls hm hn hcmp h41e
  go_enter Try.func4, Try.ntmps4
  go_wp2_with (fail)
  refine (HC.out _ (Below.refl _ _)).mono ?_
  rintro e w1 ⟨va, rfl, hva, hb1⟩
  have ka := HLU.out _ _ _ hva
  go_wp2_with (fail)
  refine (HC'.out _ hb1).mono ?_
  rintro e w2 ⟨vb, rfl, hvb, hb2⟩
  have kb := HLV.out _ _ _ hvb
  have b2 := below_at hb1 (Nat.le_refl _) hb2
  have ka2 := ka.keep hb2
  go_wp2_with (first
    | (go_at_call 37; refine (H37.out _ _ _ ka2 kb).mono ?_; rintro e w3 ⟨vs, rfl, hvs, hb3⟩
       have b3 := below_at b2 (Nat.le_refl _) hb3
       have ka3 := ka2.keep hb3
       have kb3 := kb.keep hb3)
    | (go_at_call 38; refine (H38.out _ _ _ ka3 kb3).mono ?_; rintro e w4 ⟨rfl, hb4⟩
       have b4 := below_at b3 (Nat.le_refl _) hb4
       have ka4 := ka3.keep hb4
       have kb4 := kb3.keep hb4
       have ks4 := hvs.is.keep hb4)
    | (go_at_call 39; refine (H39.out _ _ _ ka4 kb4).mono ?_; rintro e w5 ⟨rfl, hb5⟩
       have b5 := below_at b4 (Nat.le_refl _) hb5
       have ka5 := ka4.keep hb5
       have kb5 := kb4.keep hb5
       have ks5 := ks4.keep hb5)
    | (go_at_call 40; refine (H40.out _ _ _ ka5 kb5).mono ?_; rintro e w6 ⟨rfl, rfl⟩)
    | (go_at_call 30; refine (lives_any _).mono ?_; rintro e w7 ⟨rfl, hb7⟩
       have b7 := below_at b5 (Nat.le_refl _) hb7
       have ka7 := ka5.keep hb7
       have kb7 := kb5.keep hb7
       have ks7 := ks5.keep hb7)
    | (go_at_call 42; refine (H42.out _ _ _ ka7 kb7).mono ?_; rintro e w8 ⟨rfl, hb8⟩
       have b8 := below_at b7 (Nat.le_refl _) hb8
       have ka8 := ka7.keep hb8
       have kb8 := kb7.keep hb8
       have ks8 := ks7.keep hb8)
    | (go_at_call 43; refine (H43.out _ _ _ ka8 kb8).mono ?_; rintro e w9 ⟨v9, rfl, hv9, hb9⟩
       have b9 := below_at b8 (Nat.le_refl _) hb9
       have ka9 := ka8.keep hb9
       have kb9 := kb8.keep hb9
       have ks9 := ks8.keep hb9))
  refine (H41.out _ _ _ _ ks9 hv9).mono ?_
  rintro e w10 ⟨rfl, hb10⟩
  have b10 := below_at b9 (Nat.le_refl _) hb10
  go_wp2_with (fail)
  refine (H41E.out _ _).mono ?_
  rintro e w11 ⟨rfl, hb11⟩
  have b11 := below_at b10 (Nat.le_refl _) hb11
  go_wp2
  go_ret
  exact ⟨rfl, b11⟩

set_option maxHeartbeats 2000000 in
set_option maxRecDepth 100000 in
theorem adds_ge (A A' : Option Addr) (c c' L L' m n : Nat) (xs ys : List Nat) (w : World) (hA : Nums .u32 w A xs) (hA' : Nums .u32 w A' ys) (hL : L = xs.length) (hL' : L' = ys.length) (hc : L ≤ c) (hc' : L' ≤ c') (hnil : A = none → c = 0) (hnil' : A' = none → c' = 0)
    (hm : xs.take 60 = dig B32 m) (hn : ys.take 60 = dig B32 n) (hcmp : n ≤ m) : Calls Try.prog 4 #[.slice A L c, .slice A' L' c'] w (LivesPost w) := by
  have hcut := fun w' (h : Below w.heap.size w w') => cut_any A c L 60 xs w' (hA.keep h) hL hc hnil (by omega)
  have hcut' := fun w' (h : Below w.heap.size w w') => cut_any A' c' L' 60 ys w' (hA'.keep h) hL' hc' hnil' (by omega)
  have l1 : (xs.take 60).length ≤ 60 := by rw [List.length_take]; omega
  have l2 : (ys.take 60).length ≤ 60 := by rw [List.length_take]; omega
  rw [hm] at hcut l1
  rw [hn] at hcut' l2
  have hp := sum_small l1 l2
  have ls := sum_len l1 l2
  have hlu : ∀ B w' a, OwnLs B w' a (dig B32 m) → Limbs w' a (dig B32 m) := fun B w' a h => h.limbs (by omega)
  have hlv : ∀ B w' a, OwnLs B w' a (dig B32 n) → Limbs w' a (dig B32 n) := fun B w' a h => h.limbs (by omega)
  have h37 := fun a b w (h : Limbs w a (dig B32 m)) (k : Limbs w b (dig B32 n)) => add_ok a b m n w h.is k.is (by omega) (by omega) hp
  have h38 := fun a b w (h : Limbs w a (dig B32 m)) (k : Limbs w b (dig B32 n)) => sub_ok a b m n w h.is k.is (by omega) (by omega) hcmp
  have h39 := fun a b w (h : Limbs w a (dig B32 m)) (k : Limbs w b (dig B32 n)) => cmp_ok a b m n w h.is k.is (by omega) (by omega)
  have h40 := fun a b w h k => both_any a b (dig B32 m) (dig B32 n) w h k
  have h42 := fun a b w (h : Limbs w a (dig B32 m)) (k : Limbs w b (dig B32 n)) => refCmp_call a b m n w h.is k.is (by omega) (by omega)
  have h43 := fun a b w (h : Limbs w a (dig B32 m)) (k : Limbs w b (dig B32 n)) => refAdd_call a b m n w h.is k.is (by omega) (by omega)
  have h41 := fun a b w (h : N32 w a (m + n)) (k : OwnLs w.heap.size w b (dig B32 (m + n))) => is_ok a b (m + n) w h (k.limbs (by omega)) (by omega)
  have h41b : ∀ B a b w, N32 w a (m + n) → OwnLs B w b (dig B32 (m + n)) → Calls Try.prog 41 #[a, .int .i64 0, b, .int .i64 0] w (LivesPost w) := fun B a b w h k => is_ok a b (m + n) w h (k.limbs (by omega)) (by omega)
  have ld : (dig B32 (m - n)).length ≤ 60 := Nat.le_trans (dig_len_le b32_two (Nat.lt_of_le_of_lt (Nat.sub_le m n) (dig_len_lt b32_two))) l1
  have h44 := fun a b w (h : Limbs w a (dig B32 m)) (k : Limbs w b (dig B32 n)) => refSub_call a b m n w h.is k.is (by omega) hcmp
  have h41d : ∀ B a b w, N32 w a (m - n) → OwnLs B w b (dig B32 (m - n)) → Calls Try.prog 41 #[a, .int .i64 0, b, .int .i64 0] w (LivesPost w) := fun B a b w h k => is_ok a b (m - n) w h (k.limbs (by omega)) (by omega)
  rw [chk2, if_pos (chk_dig (by omega)), chk_dig (by omega)] at h40
  have hcv : 0 ≤ cmpN m n := by unfold cmpN; split <;> (try split) <;> omega
  generalize cmpN m n = r at *
  have hq : (r != r) = false := by simp
  have HC := Lib.hid hcut
  have HC' := Lib.hid hcut'
  have HLU := Lib.hid hlu
  have HLV := Lib.hid hlv
  have H37 := Lib.hid h37
  have H38 := Lib.hid h38
  have H39 := Lib.hid h39
  have H40 := Lib.hid h40
  have H41 := Lib.hid h41b
  have H42 := Lib.hid h42
  have H43 := Lib.hid h43
  have H41D := Lib.hid h41d
  have H44 := Lib.hid h44
  clear hcut hcut' hlu hlv h37 h38 h39 h40 h41 h41b h42 h43 hA hA' hL hL' hnil hnil' l1 l2 hp ls hm hn hcmp h41d h44 ld
  go_enter Try.func4, Try.ntmps4
  go_wp2_with (fail)
  refine (HC.out _ (Below.refl _ _)).mono ?_
  rintro e w1 ⟨va, rfl, hva, hb1⟩
  have ka := HLU.out _ _ _ hva
  go_wp2_with (fail)
  refine (HC'.out _ hb1).mono ?_
  rintro e w2 ⟨vb, rfl, hvb, hb2⟩
  have kb := HLV.out _ _ _ hvb
  have b2 := below_at hb1 (Nat.le_refl _) hb2
  have ka2 := ka.keep hb2
  go_wp2_with (first
    | (go_at_call 37; refine (H37.out _ _ _ ka2 kb).mono ?_; rintro e w3 ⟨vs, rfl, hvs, hb3⟩
       have b3 := below_at b2 (Nat.le_refl _) hb3
       have ka3 := ka2.keep hb3
       have kb3 := kb.keep hb3)
    | (go_at_call 38; refine (H38.out _ _ _ ka3 kb3).mono ?_; rintro e w4 ⟨vd, rfl, hvd, hb4⟩
       have b4 := below_at b3 (Nat.le_refl _) hb4
       have ka4 := ka3.keep hb4
       have kb4 := kb3.keep hb4
       have ks4 := hvs.is.keep hb4)
    | (go_at_call 39; refine (H39.out _ _ _ ka4 kb4).mono ?_; rintro e w5 ⟨rfl, hb5⟩
       have b5 := below_at b4 (Nat.le_refl _) hb5
       have ka5 := ka4.keep hb5
       have kb5 := kb4.keep hb5
       have ks5 := ks4.keep hb5)
    | (go_at_call 40; refine (H40.out _ _ _ ka5 kb5).mono ?_; rintro e w6 ⟨rfl, rfl⟩)
    | (go_at_call 30; refine (lives_any _).mono ?_; rintro e w7 ⟨rfl, hb7⟩
       have b7 := below_at b5 (Nat.le_refl _) hb7
       have ka7 := ka5.keep hb7
       have kb7 := kb5.keep hb7
       have ks7 := ks5.keep hb7)
    | (go_at_call 42; refine (H42.out _ _ _ ka7 kb7).mono ?_; rintro e w8 ⟨rfl, hb8⟩
       have b8 := below_at b7 (Nat.le_refl _) hb8
       have ka8 := ka7.keep hb8
       have kb8 := kb7.keep hb8
       have ks8 := ks7.keep hb8)
    | (go_at_call 43; refine (H43.out _ _ _ ka8 kb8).mono ?_; rintro e w9 ⟨v9, rfl, hv9, hb9⟩
       have b9 := below_at b8 (Nat.le_refl _) hb9
       have ka9 := ka8.keep hb9
       have kb9 := kb8.keep hb9
       have ks9 := ks8.keep hb9))
  refine (H41.out _ _ _ _ ks9 hv9).mono ?_
  rintro e w10 ⟨rfl, hb10⟩
  have b10 := below_at b9 (Nat.le_refl _) hb10
  have kd := (((((hvd.is.keep hb5).keep hb7).keep hb8).keep hb9).keep hb10)
  have ka10 := ka9.keep hb10
  have kb10 := kb9.keep hb10
  go_wp2_with (fail)
  refine (H44.out _ _ _ ka10 kb10).mono ?_
  rintro e w11 ⟨v11, rfl, hv11, hb11⟩
  have b11 := below_at b10 (Nat.le_refl _) hb11
  go_wp2_with (fail)
  refine (H41D.out _ _ _ _ (kd.keep hb11) hv11).mono ?_
  rintro e w12 ⟨rfl, hb12⟩
  have b12 := below_at b11 (Nat.le_refl _) hb12
  go_wp2
  go_ret
  exact ⟨rfl, b12⟩

/-- The law NatAdds, for whatever limbs. -/
theorem adds_walk (A A' : Option Addr) (c c' L L' : Nat) (xs ys : List Nat) (w : World) (hA : Nums .u32 w A xs) (hA' : Nums .u32 w A' ys) (hlow : Low B32 xs) (hlow' : Low B32 ys) (hL : L = xs.length) (hL' : L' = ys.length) (hc : L ≤ c) (hc' : L' ≤ c') (hnil : A = none → c = 0) (hnil' : A' = none → c' = 0) :
    Calls Try.prog 4 #[.slice A L c, .slice A' L' c'] w (LivesPost w) := by
  by_cases h0 : chk2 (xs.take 60) (ys.take 60) = 0
  · have h1 : chk (xs.take 60) = 0 ∧ chk (ys.take 60) = 0 := by
      unfold chk2 at h0
      split at h0
      · rename_i h; exact ⟨h, h0⟩
      · rename_i h; exact absurd h0 h
    have hm := chk_zero (hlow.take 60) h1.1
    have hn := chk_zero (hlow'.take 60) h1.2
    rcases Nat.lt_or_ge (val B32 (xs.take 60)) (val B32 (ys.take 60)) with h2 | h2
    · exact adds_lt A A' c c' L L' _ _ xs ys w hA hA' hL hL' hc hc' hnil hnil' hm hn h2
    · exact adds_ge A A' c c' L L' _ _ xs ys w hA hA' hL hL' hc hc' hnil hnil' hm hn h2
  · exact adds_bad A A' c c' L L' xs ys w hA hA' hL hL' hc hc' hnil hnil' h0
end Go.Proofs.Ytaegkhdkhgemmaa

namespace Go.Proofs.Ytaegkhdkhgemmaa
open Go.RowKit Num

/-- A number is returned; nothing that was there has turned. -/
def NumRet (w : World) (n : Nat) (e : Ending) (w' : World) : Prop := ∃ v, e = .returned v ∧ N32 w' v n ∧ Below w.heap.size w w'

theorem len_add {m n K : Nat} (hm : (dig B32 m).length ≤ K) (hn : (dig B32 n).length ≤ K) : (dig B32 (m + n)).length ≤ K + 1 := by
  have h1 := Nat.lt_of_lt_of_le (dig_len_lt b32_two (n := m)) (Nat.pow_le_pow_right b32_pos hm)
  have h2 := Nat.lt_of_lt_of_le (dig_len_lt b32_two (n := n)) (Nat.pow_le_pow_right b32_pos hn)
  exact dig_len_le b32_two (two_pow_lt b32_two h1 h2)
theorem len_mul {m n K J : Nat} (hm : (dig B32 m).length ≤ K) (hn : (dig B32 n).length ≤ J) : (dig B32 (m * n)).length ≤ K + J := by
  have h1 := Nat.lt_of_lt_of_le (dig_len_lt b32_two (n := m)) (Nat.pow_le_pow_right b32_pos hm)
  have h2 := Nat.lt_of_lt_of_le (dig_len_lt b32_two (n := n)) (Nat.pow_le_pow_right b32_pos hn)
  refine dig_len_le b32_two ?_
  rw [Nat.pow_add]
  exact Nat.mul_lt_mul_of_lt_of_lt h1 h2

set_option maxHeartbeats 400000 in
theorem add_n (a b : Value) (m n : Nat) (w : World) (ha : N32 w a m) (hb : N32 w b n) (hm : (dig B32 m).length ≤ 1000) (hn : (dig B32 n).length ≤ 1000) : Calls Try.prog 71 #[a, b] w (NumRet w (m + n)) := by
  have h := add_ok a b m n w ha hb (by omega) (by omega) (Nat.le_trans (bits_of_len (len_add hm hn)) (by omega))
  have H := Lib.hid h
  clear h ha hb
  go_enter Try.func71, Try.ntmps71
  go_wp2_with (go_at_call 37; refine H.out.mono ?_; rintro e w1 ⟨v, rfl, hv, hb1⟩)
  go_ret
  exact ⟨_, rfl, hv.is, hb1⟩
set_option maxHeartbeats 400000 in
theorem sub_n (a b : Value) (m n : Nat) (w : World) (ha : N32 w a m) (hb : N32 w b n) (hm : (dig B32 m).length ≤ 1000) (hn : (dig B32 n).length ≤ 1000) (hle : n ≤ m) : Calls Try.prog 73 #[a, b] w (NumRet w (m - n)) := by
  have h := sub_ok a b m n w ha hb (by omega) (by omega) hle
  have H := Lib.hid h
  clear h ha hb hle
  go_enter Try.func73, Try.ntmps73
  go_wp2_with (go_at_call 38; refine H.out.mono ?_; rintro e w1 ⟨v, rfl, hv, hb1⟩)
  go_ret
  exact ⟨_, rfl, hv.is, hb1⟩
set_option maxHeartbeats 400000 in
theorem mul_n (a b : Value) (m n : Nat) (w : World) (ha : N32 w a m) (hb : N32 w b n) (hm : (dig B32 m).length ≤ 1000) (hn : (dig B32 n).length ≤ 1000) (hs : (dig B32 m).length ≤ 158 ∨ (dig B32 n).length ≤ 158) : Calls Try.prog 72 #[a, b] w (NumRet w (m * n)) := by
  have lm := words_le (n := m) (K := 500) hm
  have ln := words_le (n := n) (K := 500) hn
  have hsh : (dig B64 m).length ≤ 79 ∨ (dig B64 n).length ≤ 79 := by
    rcases hs with h | h
    · exact .inl (words_le (K := 79) h)
    · exact .inr (words_le (K := 79) h)
  have h := mul_at (N := 500) a b m n w (mulAt_short (by omega) (by omega) hsh) (by omega) ha hb (by omega) (by omega) (by omega) (by omega) (Nat.le_trans (bits_of_len (len_mul hm hn)) (by omega))
  have H := Lib.hid h
  clear h ha hb hs hsh
  go_enter Try.func72, Try.ntmps72
  go_wp2_with (go_at_call 45; refine H.out.mono ?_; rintro e w1 ⟨v, rfl, hv, hb1⟩)
  go_ret
  exact ⟨_, rfl, hv.is, hb1⟩
set_option maxHeartbeats 400000 in
theorem same_n (a b : Value) (n : Nat) (w : World) (ha : N32 w a n) (hb : N32 w b n) (hl : (dig B32 n).length ≤ 1000) : Calls Try.prog 70 #[a, b] w (LivesPost w) := by
  have hs := same_nums a b _ _ w (Limbs.num ha (by omega)) (Limbs.num hb (by omega))
  rw [decide_eq_true rfl] at hs
  have H := Lib.hid hs
  clear hs ha hb
  go_enter Try.func70, Try.ntmps70
  go_wp2_with (go_at_call 32; refine H.out.mono ?_; rintro e w1 ⟨rfl, hb1⟩)
  go_ret
  exact ⟨rfl, hb1⟩

theorem whole_len {xs : List Nat} (h : Low B32 xs) (n : Nat) : (dig B32 (val B32 (xs.take n))).length ≤ n := by
  refine Nat.le_trans (trim_le b32_two (h.take n)) ?_
  rw [List.length_take]; omega

set_option maxHeartbeats 4000000 in
set_option maxRecDepth 100000 in
/-- The law NatRing, for whatever limbs. -/
theorem ring_walk (A A1 A2 : Option Addr) (c c1 c2 L L1 L2 : Nat) (xs ys zs : List Nat) (w : World) (hA : Nums .u32 w A xs) (hA1 : Nums .u32 w A1 ys) (hA2 : Nums .u32 w A2 zs) (hx : Low B32 xs) (hy : Low B32 ys) (hz : Low B32 zs)
    (hL : L = xs.length) (hL1 : L1 = ys.length) (hL2 : L2 = zs.length) (hc : L ≤ c) (hc1 : L1 ≤ c1) (hc2 : L2 ≤ c2) (hnil : A = none → c = 0) (hnil1 : A1 = none → c1 = 0) (hnil2 : A2 = none → c2 = 0) :
    Calls Try.prog 15 #[.slice A L c, .slice A1 L1 c1, .slice A2 L2 c2] w (LivesPost w) := by
  have hw0 := fun w' (h : Below w.heap.size w w') => whole_any A c L 80 xs w' (hA.keep h) hx hL hc hnil (by omega)
  have hw1 := fun w' (h : Below w.heap.size w w') => whole_any A1 c1 L1 80 ys w' (hA1.keep h) hy hL1 hc1 hnil1 (by omega)
  have hw2 := fun w' (h : Below w.heap.size w w') => whole_any A2 c2 L2 80 zs w' (hA2.keep h) hz hL2 hc2 hnil2 (by omega)
  have lp := whole_len hx 80
  have lq := whole_len hy 80
  have lr := whole_len hz 80
  generalize val B32 (xs.take 80) = p at *
  generalize val B32 (ys.take 80) = q at *
  generalize val B32 (zs.take 80) = r at *
  have lpq := len_add lp lq
  have lqr := len_add lq lr
  have lpqr : (dig B32 (p + q + r)).length ≤ 82 := len_add lpq (Nat.le_trans lr (by omega))
  have mpq := len_mul lp lq
  have mqr := len_mul lq lr
  have mpr := len_mul lp lr
  have mpqr : (dig B32 (p * q * r)).length ≤ 240 := len_mul mpq lr
  have mps := len_mul lp lqr
  have hapq := fun a b w h k => add_n a b p q w h k (by omega) (by omega)
  have haqp := fun a b w h k => add_n a b q p w h k (by omega) (by omega)
  have hapqr := fun a b w h k => add_n a b (p + q) r w h k (by omega) (by omega)
  have haqr := fun a b w h k => add_n a b q r w h k (by omega) (by omega)
  have hapqr2 := fun a b w h k => add_n a b p (q + r) w h k (by omega) (by omega)
  have hmpq := fun a b w h k => mul_n a b p q w h k (by omega) (by omega) (.inl (by omega))
  have hmqp := fun a b w h k => mul_n a b q p w h k (by omega) (by omega) (.inl (by omega))
  have hmpqr := fun a b w h k => mul_n a b (p * q) r w h k (by omega) (by omega) (.inr (by omega))
  have hmqr := fun a b w h k => mul_n a b q r w h k (by omega) (by omega) (.inl (by omega))
  have hmpqr2 := fun a b w h k => mul_n a b p (q * r) w h k (by omega) (by omega) (.inl (by omega))
  have hmps := fun a b w h k => mul_n a b p (q + r) w h k (by omega) (by omega) (.inl (by omega))
  have hmpr := fun a b w h k => mul_n a b p r w h k (by omega) (by omega) (.inl (by omega))
  have hadd := fun a b w h k => add_n a b (p * q) (p * r) w h k (by omega) (by omega)
  have hsub := fun a b w h k => sub_n a b (p + q) q w h k (by omega) (by omega) (by omega)
  have hs1 := fun a b w h k => same_n a b (p + q) w h k (by omega)
  have hs2 := fun a b w h k => same_n a b (p + q + r) w h k (by omega)
  have hs3 := fun a b w h k => same_n a b (p * q) w h k (by omega)
  have hs4 := fun a b w h k => same_n a b (p * q * r) w h k (by omega)
  have hs5 := fun a b w h k => same_n a b (p * (q + r)) w h k (by omega)
  have hs6 := fun a b w h k => same_n a b p w h k (by omega)
  rw [Nat.add_comm q p] at haqp
  rw [← Nat.add_assoc] at hapqr2
  rw [Nat.mul_comm q p] at hmqp
  rw [← Nat.mul_assoc] at hmpqr2
  rw [← Nat.mul_add] at hadd
  rw [Nat.add_sub_cancel] at hsub
  have HW0 := Lib.hid hw0
  have HW1 := Lib.hid hw1
  have HW2 := Lib.hid hw2
  have HAPQ := Lib.hid hapq
  have HAQP := Lib.hid haqp
  have HAPQR := Lib.hid hapqr
  have HAQR := Lib.hid haqr
  have HAPQR2 := Lib.hid hapqr2
  have HMPQ := Lib.hid hmpq
  have HMQP := Lib.hid hmqp
  have HMPQR := Lib.hid hmpqr
  have HMQR := Lib.hid hmqr
  have HMPQR2 := Lib.hid hmpqr2
  have HMPS := Lib.hid hmps
  have HMPR := Lib.hid hmpr
  have HADD := Lib.hid hadd
  have HSUB := Lib.hid hsub
  have HS1 := Lib.hid hs1
  have HS2 := Lib.hid hs2
  have HS3 := Lib.hid hs3
  have HS4 := Lib.hid hs4
  have HS5 := Lib.hid hs5
  have HS6 := Lib.hid hs6
  clear hw0 hw1 hw2 hapq haqp hapqr haqr hapqr2 hmpq hmqp hmpqr hmqr hmpqr2 hmps hmpr hadd hsub hs1 hs2 hs3 hs4 hs5 hs6 lp lq lr lpq lqr lpqr mpq mqr mpr mpqr mps hA hA1 hA2 hx hy hz hL hL1 hL2 hc hc1 hc2 hnil hnil1 hnil2
  go_enter Try.func15, Try.ntmps15
  go_wp2_with (fail)
  refine (HW0.out _ (Below.refl _ _)).mono ?_
  rintro e w1 ⟨va, rfl, g1, hb1⟩
  have b1 := hb1
  go_wp2_with (fail)
  refine (HW1.out _ b1).mono ?_
  rintro e w2 ⟨vb, rfl, g2, hb2⟩
  have b2 := below_at b1 (Nat.le_refl _) hb2
  have va_2 := g1.keep hb2
  go_wp2_with (fail)
  refine (HW2.out _ b2).mono ?_
  rintro e w3 ⟨vc, rfl, g3, hb3⟩
  have b3 := below_at b2 (Nat.le_refl _) hb3
  have va_3 := va_2.keep hb3
  have vb_3 := g2.keep hb3
  go_wp2_with (fail)
  refine (HAPQ.out _ _ _ va_3 vb_3).mono ?_
  rintro e w4 ⟨v1, rfl, g4, hb4⟩
  have b4 := below_at b3 (Nat.le_refl _) hb4
  have va_4 := va_3.keep hb4
  have vb_4 := vb_3.keep hb4
  have vc_4 := g3.keep hb4
  go_wp2_with (fail)
  refine (HAQP.out _ _ _ vb_4 va_4).mono ?_
  rintro e w5 ⟨v2, rfl, g5, hb5⟩
  have b5 := below_at b4 (Nat.le_refl _) hb5
  have va_5 := va_4.keep hb5
  have vb_5 := vb_4.keep hb5
  have vc_5 := vc_4.keep hb5
  have v1_5 := g4.keep hb5
  go_wp2_with (fail)
  refine (HS1.out _ _ _ v1_5 g5).mono ?_
  rintro e w6 ⟨rfl, hb6⟩
  have b6 := below_at b5 (Nat.le_refl _) hb6
  have va_6 := va_5.keep hb6
  have vb_6 := vb_5.keep hb6
  have vc_6 := vc_5.keep hb6
  have v1_6 := v1_5.keep hb6
  have v2_6 := g5.keep hb6
  go_wp2_with (fail)
  refine (HAPQ.out _ _ _ va_6 vb_6).mono ?_
  rintro e w7 ⟨v3, rfl, g7, hb7⟩
  have b7 := below_at b6 (Nat.le_refl _) hb7
  have va_7 := va_6.keep hb7
  have vb_7 := vb_6.keep hb7
  have vc_7 := vc_6.keep hb7
  go_wp2_with (fail)
  refine (HAPQR.out _ _ _ g7 vc_7).mono ?_
  rintro e w8 ⟨v4, rfl, g8, hb8⟩
  have b8 := below_at b7 (Nat.le_refl _) hb8
  have va_8 := va_7.keep hb8
  have vb_8 := vb_7.keep hb8
  have vc_8 := vc_7.keep hb8
  have v3_8 := g7.keep hb8
  go_wp2_with (fail)
  refine (HAQR.out _ _ _ vb_8 vc_8).mono ?_
  rintro e w9 ⟨v5, rfl, g9, hb9⟩
  have b9 := below_at b8 (Nat.le_refl _) hb9
  have va_9 := va_8.keep hb9
  have vb_9 := vb_8.keep hb9
  have vc_9 := vc_8.keep hb9
  have v3_9 := v3_8.keep hb9
  have v4_9 := g8.keep hb9
  go_wp2_with (fail)
  refine (HAPQR2.out _ _ _ va_9 g9).mono ?_
  rintro e w10 ⟨v6, rfl, g10, hb10⟩
  have b10 := below_at b9 (Nat.le_refl _) hb10
  have va_10 := va_9.keep hb10
  have vb_10 := vb_9.keep hb10
  have vc_10 := vc_9.keep hb10
  have v3_10 := v3_9.keep hb10
  have v4_10 := v4_9.keep hb10
  have v5_10 := g9.keep hb10
  go_wp2_with (fail)
  refine (HS2.out _ _ _ v4_10 g10).mono ?_
  rintro e w11 ⟨rfl, hb11⟩
  have b11 := below_at b10 (Nat.le_refl _) hb11
  have va_11 := va_10.keep hb11
  have vb_11 := vb_10.keep hb11
  have vc_11 := vc_10.keep hb11
  have v3_11 := v3_10.keep hb11
  have v4_11 := v4_10.keep hb11
  have v5_11 := v5_10.keep hb11
  have v6_11 := g10.keep hb11
  go_wp2_with (fail)
  refine (HMPQ.out _ _ _ va_11 vb_11).mono ?_
  rintro e w12 ⟨v7, rfl, g12, hb12⟩
  have b12 := below_at b11 (Nat.le_refl _) hb12
  have va_12 := va_11.keep hb12
  have vb_12 := vb_11.keep hb12
  have vc_12 := vc_11.keep hb12
  go_wp2_with (fail)
  refine (HMQP.out _ _ _ vb_12 va_12).mono ?_
  rintro e w13 ⟨v8, rfl, g13, hb13⟩
  have b13 := below_at b12 (Nat.le_refl _) hb13
  have va_13 := va_12.keep hb13
  have vb_13 := vb_12.keep hb13
  have vc_13 := vc_12.keep hb13
  have v7_13 := g12.keep hb13
  go_wp2_with (fail)
  refine (HS3.out _ _ _ v7_13 g13).mono ?_
  rintro e w14 ⟨rfl, hb14⟩
  have b14 := below_at b13 (Nat.le_refl _) hb14
  have va_14 := va_13.keep hb14
  have vb_14 := vb_13.keep hb14
  have vc_14 := vc_13.keep hb14
  have v7_14 := v7_13.keep hb14
  have v8_14 := g13.keep hb14
  go_wp2_with (fail)
  refine (HMPQ.out _ _ _ va_14 vb_14).mono ?_
  rintro e w15 ⟨v9, rfl, g15, hb15⟩
  have b15 := below_at b14 (Nat.le_refl _) hb15
  have va_15 := va_14.keep hb15
  have vb_15 := vb_14.keep hb15
  have vc_15 := vc_14.keep hb15
  go_wp2_with (fail)
  refine (HMPQR.out _ _ _ g15 vc_15).mono ?_
  rintro e w16 ⟨v10, rfl, g16, hb16⟩
  have b16 := below_at b15 (Nat.le_refl _) hb16
  have va_16 := va_15.keep hb16
  have vb_16 := vb_15.keep hb16
  have vc_16 := vc_15.keep hb16
  have v9_16 := g15.keep hb16
  go_wp2_with (fail)
  refine (HMQR.out _ _ _ vb_16 vc_16).mono ?_
  rintro e w17 ⟨v11, rfl, g17, hb17⟩
  have b17 := below_at b16 (Nat.le_refl _) hb17
  have va_17 := va_16.keep hb17
  have vb_17 := vb_16.keep hb17
  have vc_17 := vc_16.keep hb17
  have v9_17 := v9_16.keep hb17
  have v10_17 := g16.keep hb17
  go_wp2_with (fail)
  refine (HMPQR2.out _ _ _ va_17 g17).mono ?_
  rintro e w18 ⟨v12, rfl, g18, hb18⟩
  have b18 := below_at b17 (Nat.le_refl _) hb18
  have va_18 := va_17.keep hb18
  have vb_18 := vb_17.keep hb18
  have vc_18 := vc_17.keep hb18
  have v9_18 := v9_17.keep hb18
  have v10_18 := v10_17.keep hb18
  have v11_18 := g17.keep hb18
  go_wp2_with (fail)
  refine (HS4.out _ _ _ v10_18 g18).mono ?_
  rintro e w19 ⟨rfl, hb19⟩
  have b19 := below_at b18 (Nat.le_refl _) hb19
  have va_19 := va_18.keep hb19
  have vb_19 := vb_18.keep hb19
  have vc_19 := vc_18.keep hb19
  have v9_19 := v9_18.keep hb19
  have v10_19 := v10_18.keep hb19
  have v11_19 := v11_18.keep hb19
  have v12_19 := g18.keep hb19
  go_wp2_with (fail)
  refine (HAQR.out _ _ _ vb_19 vc_19).mono ?_
  rintro e w20 ⟨v13, rfl, g20, hb20⟩
  have b20 := below_at b19 (Nat.le_refl _) hb20
  have va_20 := va_19.keep hb20
  have vb_20 := vb_19.keep hb20
  have vc_20 := vc_19.keep hb20
  go_wp2_with (fail)
  refine (HMPS.out _ _ _ va_20 g20).mono ?_
  rintro e w21 ⟨v14, rfl, g21, hb21⟩
  have b21 := below_at b20 (Nat.le_refl _) hb21
  have va_21 := va_20.keep hb21
  have vb_21 := vb_20.keep hb21
  have vc_21 := vc_20.keep hb21
  have v13_21 := g20.keep hb21
  go_wp2_with (fail)
  refine (HMPQ.out _ _ _ va_21 vb_21).mono ?_
  rintro e w22 ⟨v15, rfl, g22, hb22⟩
  have b22 := below_at b21 (Nat.le_refl _) hb22
  have va_22 := va_21.keep hb22
  have vb_22 := vb_21.keep hb22
  have vc_22 := vc_21.keep hb22
  have v13_22 := v13_21.keep hb22
  have v14_22 := g21.keep hb22
  go_wp2_with (fail)
  refine (HMPR.out _ _ _ va_22 vc_22).mono ?_
  rintro e w23 ⟨v16, rfl, g23, hb23⟩
  have b23 := below_at b22 (Nat.le_refl _) hb23
  have va_23 := va_22.keep hb23
  have vb_23 := vb_22.keep hb23
  have vc_23 := vc_22.keep hb23
  have v13_23 := v13_22.keep hb23
  have v14_23 := v14_22.keep hb23
  have v15_23 := g22.keep hb23
  go_wp2_with (fail)
  refine (HADD.out _ _ _ v15_23 g23).mono ?_
  rintro e w24 ⟨v17, rfl, g24, hb24⟩
  have b24 := below_at b23 (Nat.le_refl _) hb24
  have va_24 := va_23.keep hb24
  have vb_24 := vb_23.keep hb24
  have vc_24 := vc_23.keep hb24
  have v13_24 := v13_23.keep hb24
  have v14_24 := v14_23.keep hb24
  have v15_24 := v15_23.keep hb24
  have v16_24 := g23.keep hb24
  go_wp2_with (fail)
  refine (HS5.out _ _ _ v14_24 g24).mono ?_
  rintro e w25 ⟨rfl, hb25⟩
  have b25 := below_at b24 (Nat.le_refl _) hb25
  have va_25 := va_24.keep hb25
  have vb_25 := vb_24.keep hb25
  have vc_25 := vc_24.keep hb25
  have v13_25 := v13_24.keep hb25
  have v14_25 := v14_24.keep hb25
  have v15_25 := v15_24.keep hb25
  have v16_25 := v16_24.keep hb25
  have v17_25 := g24.keep hb25
  go_wp2_with (fail)
  refine (HAPQ.out _ _ _ va_25 vb_25).mono ?_
  rintro e w26 ⟨v18, rfl, g26, hb26⟩
  have b26 := below_at b25 (Nat.le_refl _) hb26
  have va_26 := va_25.keep hb26
  have vb_26 := vb_25.keep hb26
  have vc_26 := vc_25.keep hb26
  go_wp2_with (fail)
  refine (HSUB.out _ _ _ g26 vb_26).mono ?_
  rintro e w27 ⟨v19, rfl, g27, hb27⟩
  have b27 := below_at b26 (Nat.le_refl _) hb27
  have va_27 := va_26.keep hb27
  have vb_27 := vb_26.keep hb27
  have vc_27 := vc_26.keep hb27
  have v18_27 := g26.keep hb27
  go_wp2_with (fail)
  refine (HS6.out _ _ _ g27 va_27).mono ?_
  rintro e w28 ⟨rfl, hb28⟩
  have b28 := below_at b27 (Nat.le_refl _) hb28
  have va_28 := va_27.keep hb28
  have vb_28 := vb_27.keep hb28
  have vc_28 := vc_27.keep hb28
  have v18_28 := v18_27.keep hb28
  have v19_28 := g27.keep hb28
  go_wp2_with (fail)
  refine (lives_any _).mono ?_
  rintro e w29 ⟨rfl, hb29⟩
  have b29 := below_at b28 (Nat.le_refl _) hb29
  have va_29 := va_28.keep hb29
  have vb_29 := vb_28.keep hb29
  have vc_29 := vc_28.keep hb29
  go_wp2
  go_ret
  exact ⟨rfl, b29⟩
end Go.Proofs.Ytaegkhdkhgemmaa
