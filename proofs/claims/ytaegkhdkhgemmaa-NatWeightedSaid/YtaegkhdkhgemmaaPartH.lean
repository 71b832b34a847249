/- Part of the proof of NatWeighted: Rounds, WholeO, WeightW. -/
import Derived.Test.YtaegkhdkhgemmaaPartG
import Derived.RangeFuncNested
/- What a round of a loop over a sequence may do: lay new blocks, and write m boxes in a row. -/
namespace Go.Proofs.Ytaegkhdkhgemmaa
open Go.RowKit Num

/-- W' is W with new blocks, and with the m boxes from B on written. -/
structure TB (B m : Nat) (W W' : World) : Prop where
  os : W'.os = W.os
  tape : W'.tape = W.tape
  output : W'.output = W.output
  size : W.heap.size ≤ W'.heap.size
  block : ∀ k, k < W.heap.size → (k < B ∨ B + m ≤ k) → W'.heap[k]? = W.heap[k]?
section
variable {B m : Nat} {W W1 W2 : World}
theorem TB.refl (W : World) : TB B m W W := ⟨rfl, rfl, rfl, Nat.le_refl _, fun _ _ _ => rfl⟩
theorem TB.trans (h : TB B m W W1) (j : TB B m W1 W2) : TB B m W W2 :=
  ⟨j.os.trans h.os, j.tape.trans h.tape, j.output.trans h.output, Nat.le_trans h.size j.size, fun k hk hr => (j.block k (Nat.lt_of_lt_of_le hk h.size) hr).trans (h.block k hk hr)⟩
theorem TB.below (h : Below W.heap.size W W1) : TB B m W W1 := ⟨h.os, h.tape, h.output, h.size, fun k hk _ => h.block k hk⟩
theorem TB.set (W : World) {k : Nat} (hk : B ≤ k) (hk' : k < B + m) (i : Nat) (v : Value) : TB B m W (W.setCell ⟨k, i, none⟩ v) :=
  ⟨rfl, rfl, rfl, by simp, fun j _ hr => Below.heap_setCell W _ v j (by show j ≠ k; omega)⟩
theorem TB.drew (W : World) : TB B m W W.drew := ⟨rfl, rfl, rfl, Nat.le_refl _, fun _ _ _ => rfl⟩
theorem TB.belowAt {n : Nat} {w : World} (h : TB B m W W1) (hb : Below n w W) (hn : n ≤ B) (hw : n ≤ W.heap.size) : Below n w W1 :=
  hb.trans ⟨h.os, h.tape, h.output, h.size, fun k hk => h.block k (by omega) (.inl (by omega))⟩
/-- The boxes that a round names. -/
def RBox (B m : Nat) : World → Nat → Prop := fun _ k => B ≤ k ∧ k < B + m
theorem rbox_rb (n₀ : Nat) : RB (RBox B m) n₀ := fun _ _ _ _ h => h
theorem TB.kpS (h : TB B m W W1) : KpS (RBox B m) W W1 :=
  ⟨h.size, fun g => ⟨fun k o hk _ hn => (h.block k (Array.getElem?_eq_some_iff.1 hk).1 (by unfold RBox at hn; omega)).trans hk, fun k hk => ⟨Nat.lt_of_lt_of_le (g k hk) h.size, .inl hk⟩⟩⟩
theorem TB.keeps {n : Nat} (h : TB B m W W1) (hb : ∀ k, B ≤ k → k < B + m → ∃ o, W.heap[k]? = some o ∧ o.isCells = true) : KeepsFrom n W W1 :=
  ⟨h.size, fun k o _ hk ho => by
    by_cases hr : B ≤ k ∧ k < B + m
    · obtain ⟨o', h1, h2⟩ := hb k hr.1 hr.2
      rw [hk] at h1; injection h1 with h1; subst h1; rw [ho] at h2; cases h2
    · exact (h.block k (Array.getElem?_eq_some_iff.1 hk).1 (by omega)).trans hk⟩
theorem TB.cell {k i : Nat} (h : TB B m W W1) (hl : k < W.heap.size) (hr : k < B ∨ B + m ≤ k) : W1.cell? ⟨k, i, none⟩ = W.cell? ⟨k, i, none⟩ := World.cell?_of_block (h.block k hl hr)
theorem TB.boxed {k : Nat} {t : TypeId} {v : Value} (h : TB B m W W1) (hb : Boxed W k t v) (hr : k < B ∨ B + m ≤ k) : Boxed W1 k t v := (h.block k hb.lt hr).trans hb

/-- A number (limbs) that lies in none of the boxes. -/
def NOut (B m : Nat) (W : World) (v : Value) (n : Nat) : Prop :=
  ∃ A c, v = .slice A (dig B32 n).length c ∧ (dig B32 n).length ≤ c ∧ (0 < (dig B32 n).length → ∃ g off, A = some ⟨g, off, none⟩ ∧ g < W.heap.size ∧ (g < B ∨ B + m ≤ g) ∧ ∀ (i u : Nat), (dig B32 n)[i]? = some u → W.cell? ⟨g, off + i, none⟩ = some (.int .u32 (u : Int)))
theorem NOut.n32 {v : Value} {n : Nat} (h : NOut B m W v n) : N32 W v n := by
  obtain ⟨A, c, e, hc, hn⟩ := h
  refine ⟨A, c, e, hc, fun hl => ?_⟩
  obtain ⟨g, off, e1, hg, _, hcell⟩ := hn hl
  exact ⟨g, off, e1, hg, hcell⟩
theorem NOut.of_lt {v : Value} {n : Nat} (h : N32 W v n) (hB : W.heap.size ≤ B) : NOut B m W v n := by
  obtain ⟨A, c, e, hc, hn⟩ := h
  refine ⟨A, c, e, hc, fun hl => ?_⟩
  obtain ⟨g, off, e1, hg, hcell⟩ := hn hl
  exact ⟨g, off, e1, hg, .inl (by omega), hcell⟩
theorem NOut.of_own {v : Value} {n B' : Nat} (h : OwnL B' W v n) (hB : B + m ≤ B') : NOut B m W v n := by
  obtain ⟨A, c, e, hc, hn⟩ := own_reads h
  refine ⟨A, c, e, hc, fun hl => ?_⟩
  obtain ⟨g, off, e1, hg, hcell⟩ := hn hl
  refine ⟨g, off, e1, hg, .inr ?_, hcell⟩
  rcases h.2 with ⟨h1, h2⟩ | ⟨g2, cap, cur, h1, h2, _⟩
  · omega
  · rw [e, e1] at h1
    injection h1 with h1 _ _
    injection h1 with h1
    injection h1 with h1 _
    omega
theorem NOut.tb {v : Value} {n : Nat} (h : NOut B m W v n) (t : TB B m W W1) : NOut B m W1 v n := by
  obtain ⟨A, c, e, hc, hn⟩ := h
  refine ⟨A, c, e, hc, fun hl => ?_⟩
  obtain ⟨g, off, e1, hg, hr, hcell⟩ := hn hl
  exact ⟨g, off, e1, Nat.lt_of_lt_of_le hg t.size, hr, fun i u hu => (World.cell?_of_block (t.block g hg hr)).trans (hcell i u hu)⟩
theorem NOut.grown {v : Value} {n : Nat} {row : Option Nat} (h : NOut B m W v n) (hg : W.grownBy W1 row) (hr : ∀ r, row = some r → ∃ o : Obj, W.heap[r]? = some o ∧ o.isCells = false) : NOut B m W1 v n := by
  obtain ⟨A, c, e, hc, hn⟩ := h
  refine ⟨A, c, e, hc, fun hl => ?_⟩
  obtain ⟨g, off, e1, hgl, ho, hcell⟩ := hn hl
  exact ⟨g, off, e1, Nat.lt_of_lt_of_le hgl hg.size, ho, fun i u hu => cell_kept (hcell i u hu) hg hr⟩
theorem boxed_grown {k : Nat} {t : TypeId} {v : Value} {row : Option Nat} (h : Boxed W k t v) (hg : W.grownBy W1 row) (hr : ∀ r, row = some r → ∃ o : Obj, W.heap[r]? = some o ∧ o.isCells = false) : Boxed W1 k t v :=
  h.kept hg (fun e' => by obtain ⟨o, ho, hc⟩ := hr k e'.symm; rw [show W.heap[k]? = _ from h] at ho; cases ho; cases hc)
theorem below_grown {n : Nat} {w : World} {row : Option Nat} (h : Below n w W) (hg : W.grownBy W1 row) (hn : n ≤ W.heap.size) (hr : ∀ r, row = some r → n ≤ r) : Below n w W1 :=
  h.grown hg hn hr
end

theorem nout_zero (B m : Nat) (W : World) (A : Option Addr) (c : Nat) : NOut B m W (.slice A 0 c) 0 :=
  ⟨A, c, by rw [dig_zero]; rfl, by rw [dig_zero]; exact Nat.zero_le _, fun h => by rw [dig_zero] at h; simp at h⟩
theorem len_base {b n K : Nat} (hb : 2 ≤ b) (h : (dig B32 n).length ≤ K) : (dig b n).length ≤ 32 * K := by
  refine dig_len_le hb (Nat.lt_of_lt_of_le (dig_len_lt b32_two) (Nat.le_trans (Nat.pow_le_pow_right b32_pos h) ?_))
  rw [show B32 ^ K = 2 ^ (32 * K) by rw [Nat.pow_mul]; rfl]
  exact Nat.pow_le_pow_left hb _
theorem len_low {b K n : Nat} (hb : b ≤ B32) (h : n < b ^ K) : (dig B32 n).length ≤ K := dig_len_le b32_two (Nat.lt_of_lt_of_le h (Nat.pow_le_pow_left hb _))

def OwnRet (w : World) (n : Nat) (e : Ending) (w' : World) : Prop := ∃ v, e = .returned v ∧ OwnL w.heap.size w' v n ∧ Below w.heap.size w w'
set_option maxHeartbeats 400000 in
theorem add_o (a b : Value) (m n : Nat) (w : World) (ha : N32 w a m) (hb : N32 w b n) (hm : (dig B32 m).length ≤ 1000) (hn : (dig B32 n).length ≤ 1000) : Calls Try.prog 71 #[a, b] w (OwnRet w (m + n)) := by
  have h := add_ok a b m n w ha hb (by omega) (by omega) (Nat.le_trans (bits_of_len (len_add hm hn)) (by omega))
  have H := Lib.hid h
  clear h ha hb
  go_enter Try.func71, Try.ntmps71
  go_wp2_with (go_at_call 37; refine H.out.mono ?_; rintro e w1 ⟨v, rfl, hv, hb1⟩)
  go_ret
  exact ⟨_, rfl, hv, hb1⟩
set_option maxHeartbeats 400000 in
theorem mul_o (a b : Value) (m n : Nat) (w : World) (ha : N32 w a m) (hb : N32 w b n) (hm : (dig B32 m).length ≤ 1000) (hn : (dig B32 n).length ≤ 1000) (hs : (dig B32 m).length ≤ 158 ∨ (dig B32 n).length ≤ 158) : Calls Try.prog 72 #[a, b] w (OwnRet w (m * n)) := by
  have lm := words_le (n := m) (K := 500) hm
  have ln := words_le (n := n) (K := 500) hn
  have hsh : (dig B64 m).length ≤ 79 ∨ (dig B64 n).length ≤ 79 := by
    rcases hs with h | h
    · exact .inl (words_le (K := 79) h)
    · exact .inr (words_le (K := 79) h)
  have h := mul_at (N := 500) a b m n w (mulAt_short (by omega) (by omega) hsh) (by omega) ha hb (by omega) (by omega) (by omega) (by omega) (Nat.le_trans (bits_of_len (len_mul hm hn)) (by omega))
  have H := Lib.hid h
  clear h ha hb hs hsh
  go_enter Try.func72, Try.ntmps72
  go_wp2_with (go_at_call 45; refine H.out.mono ?_; rintro e w1 ⟨v, rfl, hv, hb1⟩)
  go_ret
  exact ⟨_, rfl, hv, hb1⟩
end Go.Proofs.Ytaegkhdkhgemmaa

namespace Go.Proofs.Ytaegkhdkhgemmaa
open Go.RowKit Num

set_option maxHeartbeats 1000000 in
set_option maxRecDepth 100000 in
/-- whole: cut, then without the zeros at the end. -/
theorem whole_own (A : Option Addr) (c L n : Nat) (xs : List Nat) (w : World) (hA : Nums .u32 w A xs) (hlow : Low B32 xs) (hL : L = xs.length) (hc : L ≤ c) (hnil : A = none → c = 0) (hn : n ≤ 1000) :
    Calls Try.prog 69 #[.slice A L c, .int .i64 (n : Int)] w fun e w' => ∃ v, e = .returned v ∧ N32 w' v (val B32 (xs.take n)) ∧ (∀ a k c, v = .slice (some a) k c → w.heap.size ≤ a.block) ∧ Below w.heap.size w w' := by
  have hcut := cut_any A c L n xs w hA hL hc hnil hn
  have hlow' := hlow.take n
  have hlen : (xs.take n).length ≤ 1000 := by rw [List.length_take]; omega
  generalize xs.take n = ys at *
  obtain ⟨r, hr⟩ : ∃ r, val B32 ys = r := ⟨_, rfl⟩
  have fin : ∀ k, k ≤ ys.length → ZeroFrom ys k → (∀ v, 0 < k → ys[k - 1]? = some v → v ≠ 0) → ys.take k = dig B32 r := fun k hk hz hn => by rw [← hr]; exact trim_val b32_two hlow' hk hz hn
  have FIN := Lib.hid fin
  have HC := Lib.hid hcut
  have HR := Lib.hid hr
  rw [hr]
  clear hcut hA hL hnil fin hr
  go_enter Try.func69, Try.ntmps69
  go_wp2_with (go_at_call 26
               refine HC.out.mono ?_
               rintro e w1 ⟨v1, rfl, hv1, hb1⟩
               obtain ⟨A1, c1, he1, hc1, hn1⟩ := own_reads hv1
               have hat : ∀ a, A1 = some a → w.heap.size ≤ a.block := (by
                 intro a ha
                 subst ha
                 rcases hv1.2 with ⟨h, _⟩ | ⟨g, cap, cur, h, hg, _⟩
                 · rw [he1] at h; cases h
                 · rw [he1] at h; injection h with h _ _; injection h with h; subst h; exact hg)
               have HAT := Lib.hid hat
               clear hat
               have HV1 := Lib.hid hv1
               clear hv1
               subst he1)
  go_loop [0] (fun t => ∃ k : Nat, k ≤ ys.length ∧ t = .slice A1 k c1 ∧ ZeroFrom ys k) (fun t => lenOf t)
  case atStart => exact ⟨ys.length, Nat.le_refl _, rfl, fun i v hv hi => by have := (List.getElem?_eq_some_iff.1 hv).1; omega⟩
  case round =>
    obtain ⟨k, hk, rfl, hz⟩ := hrel
    have hex : (∃ v, 0 < k ∧ ys[k - 1]? = some v ∧ v = 0) ∨ (∀ v, 0 < k → ys[k - 1]? = some v → v ≠ 0) := by
      by_cases hh : ∃ v, 0 < k ∧ ys[k - 1]? = some v ∧ v = 0
      · exact .inl hh
      · exact .inr fun v h1 h2 h3 => hh ⟨v, h1, h2, h3⟩
    rcases hex with ⟨v, hp, hv, hv0⟩ | hfin
    · obtain ⟨g, off, v', rfl, hg, hv', hc2⟩ := hn1.at_ (i := k - 1) (by omega)
      have e : v' = v := by rw [hv] at hv'; injection hv' with hv'; exact hv'.symm
      subst e
      have hq : ((v' : Int) == 0) = true := by simp [hv0]
      have HV := Lib.hid hv
      have H0 := Lib.hid hv0
      clear hv hv' hv0 hn1
      go_wp2
      go_round
      case rel =>
        refine ⟨k - 1, by omega, rfl, fun i u hu hi => ?_⟩
        by_cases e : i = k - 1
        · have := HV.out; rw [e] at hu; rw [hu] at this; injection this with this; rw [this]; exact H0.out
        · exact hz i u hu (by omega)
      case measure => simp [lenOf]; omega
    · have htk := FIN.out k hk hz hfin
      have hlen2 : (dig B32 r).length = k := by rw [← htk, List.length_take]; omega
      have hnum : Nums .u32 w1 A1 (dig B32 r) := by rw [← htk]; exact hn1.take k
      have hres : N32 w1 (.slice A1 k c1) r := ⟨A1, c1, by rw [hlen2], by rw [hlen2]; omega, hnum⟩
      have HRES := Lib.hid hres
      clear htk hlen2 hnum hres
      by_cases hp : 0 < k
      · obtain ⟨g, off, v, rfl, hg, hv, hc2⟩ := hn1.at_ (i := k - 1) (by omega)
        have hq : ((v : Int) == 0) = false := by have := hfin v hp hv; simp; omega
        have HV := Lib.hid hv
        clear hv hn1 hfin
        go_wp2
        go_ret
        exact ⟨_, rfl, HRES.out, fun a k c h => HAT.out a (by injection h), hb1⟩
      · clear hn1 hfin
        go_wp2
        go_ret
        exact ⟨_, rfl, HRES.out, fun a k c h => HAT.out a (by injection h), hb1⟩
end Go.Proofs.Ytaegkhdkhgemmaa

/- The law NatWeighted: the digits, weighted, add up to the number. -/
namespace Go.Proofs.Ytaegkhdkhgemmaa
open Go.RowKit Go.Shelf Num
attribute [local go_sem] Oper.semAt_some

/-- The digits that have come, as numbers; the last one. -/
def vals {b : Nat} (pre : List (Fin b)) : List Nat := pre.map (fun x => x.val)
def lastV {b : Nat} (pre : List (Fin b)) : Nat := ((vals pre).getLast?).getD 1
theorem vals_snoc {b : Nat} (pre : List (Fin b)) (x : Fin b) : vals (pre ++ [x]) = vals pre ++ [x.val] := by simp [vals]
theorem lastV_snoc {b : Nat} (pre : List (Fin b)) (x : Fin b) : lastV (pre ++ [x]) = x.val := by simp [lastV, vals]
theorem vals_len {b : Nat} (pre : List (Fin b)) : (vals pre).length = pre.length := by simp [vals]
theorem vals_low {b : Nat} (pre : List (Fin b)) : Low b (vals pre) := by
  intro x hx
  simp only [vals, List.mem_map] at hx
  obtain ⟨y, _, rfl⟩ := hx
  exact y.2
theorem vals_fds {b : Nat} (hb : 2 ≤ b) {xs : List Nat} (h : Low b xs) : vals (fds b hb xs) = xs := by
  simp only [vals, fds, List.map_map]
  conv => rhs; rw [← List.map_id xs]
  apply List.map_congr_left
  intro x hx
  exact Nat.mod_eq_of_lt (h x hx)

theorem len_pow {b k K : Nat} (hz : 2 ≤ b) (hb : b ≤ B32) (h : k < K) : (dig B32 (b ^ k)).length ≤ K := len_low hb (Nat.pow_lt_pow_right (by omega) h)

theorem len_vals {b K : Nat} (hz : 2 ≤ b) (hb : b ≤ B32) (pre : List (Fin b)) (h : pre.length ≤ K) : (dig B32 (val b (vals pre))).length ≤ K :=
  len_low hb (Nat.lt_of_lt_of_le (val_lt _ _ (vals_low pre)) (Nat.pow_le_pow_right (by omega) (by rw [vals_len]; omega)))

/-- Between two rounds: the boxes of sum, weight, count and last digit. -/
def WI (b B G : Nat) (w : World) (pre : List (Fin b)) (W : World) : Prop :=
  ∃ A6 L6 c6 A7 L7 c7, Boxed W B 23 (.slice A6 L6 c6) ∧ Boxed W (B + 1) 23 (.slice A7 L7 c7) ∧ Boxed W (B + 1 + 1) 3 (.int .i64 (pre.length : Int)) ∧ Boxed W (B + 1 + 1 + 1) 56 (.int .u32 (lastV pre : Int)) ∧
    NOut B 4 W (.slice A6 L6 c6) (val b (vals pre)) ∧ NOut B 4 W (.slice A7 L7 c7) (b ^ pre.length) ∧ W.cell? ⟨G, 0, none⟩ = some (.int .u32 (b : Int)) ∧ Below w.heap.size w W

theorem wi_own {b B G n : Nat} {w : World} (hn : w.heap.size ≤ n) : OwnFrom n (WI b B G w) := by
  rintro pre X Y row ⟨A6, L6, c6, A7, L7, c7, h1, h2, h3, h4, h5, h6, h7, h8⟩ hg hr
  have hr' : ∀ r, row = some r → ∃ o : Obj, X.heap[r]? = some o ∧ o.isCells = false := fun r e => (hr r e).2
  exact ⟨A6, L6, c6, A7, L7, c7, boxed_grown h1 hg hr', boxed_grown h2 hg hr', boxed_grown h3 hg hr', boxed_grown h4 hg hr', h5.grown hg hr', h6.grown hg hr', cell_kept h7 hg hr',
    below_grown h8 hg h8.size (fun r e => Nat.le_trans hn (hr r e).1)⟩

theorem eqlFn (f : Fn) (a b : Array Value) (w : World) : (binOp .eql 69 (.func f a b) .nilFunc).run Try.prog w = .ok (.bool false) w := by kernel_rfl

set_option maxHeartbeats 4000000 in
set_option maxRecDepth 100000 in
theorem weighted_hi (A : Option Addr) (c L base b : Nat) (xs : List Nat) (w : World) (hA : Nums .u32 w A xs) (hx : Low B32 xs) (hL : L = xs.length) (hc : L ≤ c) (hnil : A = none → c = 0) (hbase : b < B32) (hz : 2 ≤ b) (he : b = base) :
    Calls Try.prog 22 #[.slice A L c, .int .u32 (base : Int)] w (LivesPost w) := by
  refine (callsIn_wide (n := 6)).1 ?_
  have hF : Free Fence.wide Try.prog := free_wide
  have hfn := hF.fn
  have hdd := hF.room
  have hwh := fun w' (h : Below w.heap.size w w') => whole_own A c L 10 xs w' (hA.keep h) hx hL hc hnil (by omega)
  have lp := whole_len hx 10
  generalize val B32 (xs.take 10) = p at *
  have hof : ∀ w', Calls Try.prog 33 #[.int .u64 1] w' (NatPost w' 1) := fun w' => of_any 1 (by unfold B64; omega) w'
  have hef := eqlFn
  have HWH := Lib.hid hwh
  have HOF := Lib.hid hof
  clear hwh hof hA hx hL hnil
  have hb0 : Below w.heap.size w ((w.alloc (.cells #[.int .u32 (b : Int)] 56)).alloc (.cells #[.bool false] 4)) := ((Below.refl _ _).alloc (Nat.le_refl _) _).alloc (by simp) _
  subst he
  have hz1 : ¬ (b : Int) < 2 := by omega
  generalize hFd : Fence.wide = F at *
  have hro : F.round = none := by rw [← hFd]; rfl
  refine callsIn_of_wp_marks Try.func22 rfl (hfn _) ?_ hro
  simp only [Try.ntmps22, List.size_toArray, List.length_cons, List.length_nil, Nat.reduceAdd, Nat.reduceSub, Array.replicate_succ, Array.replicate_zero, List.push_toArray, List.append_toArray, List.nil_append, List.cons_append]
  gi_wp2_with (first
    | ((try refine ⟨hdd _, ?_⟩); gi_at_call 69; refine (hF.calls _ _ _ _ _ (HWH.out _ hb0)).mono ?_; rintro e w01 ⟨v1, rfl, hv01, hat01, hb01⟩
       have hs01 : w.heap.size + 2 ≤ w01.heap.size := (by have := hb01.size; simp at this; omega)
       have hbox0 : Boxed w01 w.heap.size 56 (.int .u32 (b : Int)) := (hb01.block w.heap.size (by simp; omega)).trans ((Boxed.new w 56 (.int .u32 (b : Int))).alloc _)
       have hbox01 : Boxed w01 (w.heap.size + 1) 4 (.bool false) := (hb01.block (w.heap.size + 1) (by simp)).trans (by have e0 := Boxed.new (w.alloc (.cells #[.int .u32 (b : Int)] 56)) 4 (.bool false); rw [World.size_alloc] at e0; exact e0)
       have hbw01 : Below w.heap.size w w01 := below_at hb0 (Nat.le_refl _) hb01
       obtain ⟨w1, hw1⟩ : ∃ w1, w01 = w1 := ⟨_, rfl⟩
       have hs1 : w.heap.size + 2 ≤ w1.heap.size := (by rw [← hw1]; exact hs01)
       have hq1 : w1.cell? ⟨w.heap.size, 0, none⟩ = some (.int .u32 (b : Int)) := (by rw [← hw1]; exact hbox0.cell)
       have hbox1 : Boxed w1 (w.heap.size + 1) 4 (.bool false) := (by rw [← hw1]; exact hbox01)
       have hbw1 : Below w.heap.size w w1 := (by rw [← hw1]; exact hbw01)
       have hv1 : N32 w1 v1 p := (by rw [← hw1]; exact hv01)
       clear hbox0 hbox01 hbw01 hv01 hat01 hb01 hs01)
    | ((try refine ⟨hdd _, ?_⟩); gi_at_call 33; refine (hF.calls _ _ _ _ _ (HOF.out _)).mono ?_; rintro e w2 ⟨v2, rfl, hv2, hb2⟩
       obtain ⟨A2, L2, c2, rfl⟩ : ∃ A2 L2 c2, v2 = .slice A2 L2 c2 := (by obtain ⟨A2, c2, e, _⟩ := hv2.is; exact ⟨A2, _, c2, e⟩)
       have hs2 : w1.heap.size + 1 ≤ w2.heap.size := (by have := hb2.size; simp at this; omega)
       have hlt2 : w.heap.size < w2.heap.size := (by omega)
       have hq2 : w2.cell? ⟨w.heap.size, 0, none⟩ = some (.int .u32 (b : Int)) := (hb2.cell (p := ⟨w.heap.size, 0, none⟩) (by simp; omega)).trans (((below_new w1 _).cell (p := ⟨w.heap.size, 0, none⟩) (by show w.heap.size < _; omega)).trans hq1)
       obtain ⟨W0, hW0⟩ : ∃ W0, ((((w2.alloc (.cells #[.slice (some ⟨w1.heap.size, 0, none⟩) 0 0] 23)).alloc (.cells #[.slice A2 L2 c2] 23)).alloc (.cells #[.int .i64 0] 3)).alloc (.cells #[.int .u32 1] 56)) = W0 := ⟨_, rfl⟩
       have hB4 : Below w2.heap.size w2 W0 := (by rw [← hW0]; exact ((((Below.refl _ _).alloc (Nat.le_refl _) _).alloc (by simp) _).alloc (by simp; omega) _).alloc (by simp; omega) _)
       have hq3 := (hB4.cell (p := ⟨w.heap.size, 0, none⟩) hlt2).trans hq2
       have hdg := digits_ok v1 p b W0 ((((hv1.keep (below_new w1 _)).keep hb2)).keep hB4) (by omega) hz)
    | ((try refine ⟨hdd _, ?_⟩); gi_at_call 67; refine (hF.calls _ _ _ _ _ hdg).mono ?_; rintro e w3 ⟨bb, bw, vw, rfl, g1, g2, g3, g4, g5, g6, g7, hb3⟩))
  have hbase2 : b < B32 := hbase
  obtain ⟨B, hB⟩ : ∃ B, w2.heap.size = B := ⟨_, rfl⟩
  have hdl : (dig B64 p).length ≤ 150 := by
    have := words_le (n := p) (K := 5) (by omega)
    omega
  have hw3 : B + 4 ≤ w3.heap.size := by
    have := hb3.size
    rw [← hW0] at this
    simp at this
    omega
  have hfirst : WI b B w.heap.size w1 ([] : List (Fin b)) w3 := by
    have e1 : Boxed W0 B 23 (.slice (some ⟨w1.heap.size, 0, none⟩) 0 0) := by
      rw [← hW0, ← hB]; exact (((Boxed.new w2 23 _).alloc _).alloc _).alloc _
    have e2 : Boxed W0 (B + 1) 23 (.slice A2 L2 c2) := by
      rw [← hW0, ← hB]
      have := Boxed.new (w2.alloc (.cells #[.slice (some ⟨w1.heap.size, 0, none⟩) 0 0] 23)) 23 (.slice A2 L2 c2)
      rw [World.size_alloc] at this
      exact (this.alloc _).alloc _
    have e3 : Boxed W0 (B + 1 + 1) 3 (.int .i64 0) := by
      rw [← hW0, ← hB]
      have := Boxed.new ((w2.alloc (.cells #[.slice (some ⟨w1.heap.size, 0, none⟩) 0 0] 23)).alloc (.cells #[.slice A2 L2 c2] 23)) 3 (.int .i64 0)
      rw [World.size_alloc, World.size_alloc] at this
      exact this.alloc _
    have e4 : Boxed W0 (B + 1 + 1 + 1) 56 (.int .u32 1) := by
      rw [← hW0, ← hB]
      have := Boxed.new (((w2.alloc (.cells #[.slice (some ⟨w1.heap.size, 0, none⟩) 0 0] 23)).alloc (.cells #[.slice A2 L2 c2] 23)).alloc (.cells #[.int .i64 0] 3)) 56 (.int .u32 1)
      rw [World.size_alloc, World.size_alloc, World.size_alloc] at this
      exact this
    have hkb : ∀ {k t v}, Boxed W0 k t v → Boxed w3 k t v := fun {k t v} h => (hb3.block k h.lt).trans h
    have hbl1 : Below w1.heap.size w1 w3 := below_at (below_at (below_at (below_new w1 _) (Nat.le_refl _) hb2) (Nat.le_refl _) hB4) (Nat.le_refl _) hb3
    refine ⟨_, _, _, _, _, _, hkb e1, hkb e2, hkb e3, hkb e4, nout_zero _ _ _ _ _, ?_, (hb3.cell (p := ⟨w.heap.size, 0, none⟩) (by have := hB4.size; show w.heap.size < W0.heap.size; omega)).trans hq3, hbl1⟩
    · have h1 : NOut B 4 w2 (.slice A2 L2 c2) 1 := NOut.of_lt hv2.is (by omega)
      exact (h1.tb (TB.below hB4)).tb (TB.below hb3)
  have hst := digits_stops F hF hro (RBox B 4) 5 b bb bw p vw w3 hz hbase hdl g2 g5 g4 g6 g7.is (rbox_rb _) (fun k hk => by have := hk.2; omega)
  have hN : (dig b p).length ≤ 320 := len_base hz lp
  have hxl : ∀ x : Fin b, (IntKind.u64.wrap ((x.val : Nat) : Int)) = ((x.val : Nat) : Int) := fun x => by
    have := x.2; unfold B32 at hbase; rw [IntKind.wrap_u64]; omega
  rw [hB]
  refine wpIn_rangeFunc_ownG hro (by omega) (gf := 103) (lb := #[.pointer (some ⟨bb, 0, none⟩), .pointer (some ⟨bw, 0, none⟩)]) rfl (hfn _) (enters_of Try.func103 (by kernel_rfl) rfl) hst kpS_t (kpS_b (rbox_rb _) (Nat.le_refl _)) (Below.refl _ _) (fun _ => rfl)
    (WI b B w.heap.size w1) (fun _ _ _ => False) (wi_own (by omega)) (fun _ _ _ _ _ hs _ _ => hs) hfirst ?a1 ?assign ?body ?done ?stop
  case assign =>
    intro l x W K hK
    gi_wp2
    exact hK
  case body =>
    rintro l pre x W ⟨A6, L6, c6, A7, L7, c7, h1, h2, h3, h4, h5, h6, h7, h8⟩ hlen
    have k1 := h1.cell
    have k2 := h2.cell
    have k3 := h3.cell
    have k4 := h4.cell
    have f1 := h1.frozen
    have f2 := h2.frozen
    have f3 := h3.frozen
    have f4 := h4.frozen
    have hxb : ¬ (b : Int) ≤ ((x.val : Nat) : Int) := by have := x.2; omega
    have hc400 : ¬ (400 : Int) < (pre.length : Int) := by omega
    have hfi := (hF.inRound l).fn
    have hdi := (hF.inRound l).room
    have hxw := hxl x
    have hbw : IntKind.u64.wrap (b : Int) = (b : Int) := by unfold B32 at hbase; rw [IntKind.wrap_u64]; omega
    have hB4' : B + 4 ≤ W.heap.size := by have := h4.lt; omega
    have hGB : w.heap.size < B := by omega
    have lb : (dig B32 b).length ≤ 1 := small32 hbase
    have lx : (dig B32 x.val).length ≤ 1 := small32 (Nat.lt_trans x.2 hbase)
    have lw : (dig B32 (b ^ pre.length)).length ≤ 321 := len_pow hz (Nat.le_of_lt hbase) (by omega)
    have ls : (dig B32 (val b (vals pre))).length ≤ 320 := len_vals hz (Nat.le_of_lt hbase) pre (by omega)
    have lwx := len_mul lw lx
    have hnew : val b (vals (pre ++ [x])) = val b (vals pre) + b ^ pre.length * x.val := by rw [vals_snoc, val_snoc, vals_len]
    have hneww : b ^ (pre ++ [x]).length = b ^ pre.length * b := by rw [List.length_append, List.length_singleton, Nat.pow_succ]
    have hnewl : ((pre ++ [x]).length : Int) = (pre.length : Int) + 1 := by rw [List.length_append, List.length_singleton]; omega
    have hbx64 : b < B64 := by unfold B32 at hbase; unfold B64; omega
    have hx64 : x.val < B64 := Nat.lt_trans x.2 hbx64
    have HNEW := Lib.hid hnew
    have HNEWW := Lib.hid hneww
    have HNEWL := Lib.hid hnewl
    clear hnew hneww hnewl hst hfirst hxl HWH HOF lp hN hdl
    gi_wp2
    refine wpIn_region_heldE 4 7 (fun w' => w'.cell? ⟨B, 0, none⟩ = some (.slice A6 L6 c6) ∧ w'.cell? ⟨B + 1, 0, none⟩ = some (.slice A7 L7 c7)) (hF.inRound l) (by kernel_rfl) (by kernel_rfl) (by kernel_rfl) (by decide) (by kernel_rfl) (fun _ _ _ _ h => h) ⟨k1, k2⟩ ?_
    simp only [List.take_succ_cons, List.take_zero, List.drop_succ_cons, List.drop_zero]
    refine heads_cons (.slice A6 L6 c6) (by rfl) (fun w' ⟨s1, s2⟩ => ?_) ?_
    · go_simp
    refine heads_cons (.slice A7 L7 c7) (by rfl) (fun w' ⟨s1, s2⟩ => ?_) ?_
    · go_simp
    refine heads_cons (.int .u32 ((x.val : Nat) : Int)) (by rfl) (fun w' _ => ?_) ?_
    · go_simp
    refine heads_cons (.int .u64 ((x.val : Nat) : Int)) (by rfl) (fun w' _ => ?_) ?_
    · go_simp
    refine heads_nil ?_
    refine tailE_cons (by rfl) (fun K hK => ?_)
    go_simp
    refine ((hF.inRound l).calls _ _ _ _ _ (of_any x.val hx64 _)).mono ?_
    rintro e W1 ⟨vx, rfl, hvx, hbx⟩
    have t1 : TB B 4 W W1 := (TB.drew W).trans (TB.below hbx)
    have k1_1 := (hbx.cell (p := ⟨B, 0, none⟩) (by show B < W.heap.size; omega)).trans k1
    have k2_1 := (hbx.cell (p := ⟨B + 1, 0, none⟩) (by show B + 1 < W.heap.size; omega)).trans k2
    refine hK _ _ (.inr ⟨k1_1, k2_1⟩) ?_
    clear hK K
    refine tailE_cons (by rfl) (fun K hK => ?_)
    go_simp
    refine ((hF.inRound l).calls _ _ _ _ _ (mul_o _ vx _ _ _ (h6.tb t1).n32 hvx.is (by omega) (by omega) (.inr (by omega)))).mono ?_
    rintro e W2 ⟨vy, rfl, hvy, hby⟩
    have t2 : TB B 4 W W2 := t1.trans (TB.below hby)
    have k1_2 := (hby.cell (p := ⟨B, 0, none⟩) (by show B < W1.heap.size; have := t1.size; omega)).trans k1_1
    have k2_2 := (hby.cell (p := ⟨B + 1, 0, none⟩) (by show B + 1 < W1.heap.size; have := t1.size; omega)).trans k2_1
    refine hK _ _ (.inr ⟨k1_2, k2_2⟩) ?_
    clear hK K
    refine tailE_cons (by rfl) (fun K hK => ?_)
    go_simp
    refine ((hF.inRound l).calls _ _ _ _ _ (add_o _ vy _ _ _ (h5.tb t2).n32 hvy.is (by omega) (by omega))).mono ?_
    rintro e W3 ⟨vz, rfl, hvz, hbz⟩
    have t3 : TB B 4 W W3 := t2.trans (TB.below hbz)
    have k1_3 := (hbz.cell (p := ⟨B, 0, none⟩) (by show B < W2.heap.size; have := t2.size; omega)).trans k1_2
    have k2_3 := (hbz.cell (p := ⟨B + 1, 0, none⟩) (by show B + 1 < W2.heap.size; have := t2.size; omega)).trans k2_2
    obtain ⟨Az, Lz, cz, rfl⟩ : ∃ Az Lz cz, vz = .slice Az Lz cz := (by obtain ⟨A2, c2, e, _⟩ := hvz.is; exact ⟨A2, _, c2, e⟩)
    refine hK _ _ (.inr ⟨k1_3, k2_3⟩) ?_
    clear hK K
    refine tailE_cons (by rfl) (fun K hK => ?_)
    have n5 : NOut B 4 W3 (.slice Az Lz cz) (val b (vals (pre ++ [x]))) := by rw [HNEW.out]; exact NOut.of_own hvz (by have := t2.size; omega)
    have bx1 : Boxed W3 B 23 (.slice A6 L6 c6) := by
      have e1 := (hbx.block B (by show B < W.heap.size; omega)).trans h1
      have e2 := (hby.block B (by have := t1.size; omega)).trans e1
      exact (hbz.block B (by have := t2.size; omega)).trans e2
    have bx2 : Boxed W3 (B + 1) 23 (.slice A7 L7 c7) := by
      have e1 := (hbx.block (B + 1) (by show B + 1 < W.heap.size; omega)).trans h2
      have e2 := (hby.block (B + 1) (by have := t1.size; omega)).trans e1
      exact (hbz.block (B + 1) (by have := t2.size; omega)).trans e2
    have fz1 := bx1.frozen
    go_simp
    refine hK _ _ (.inl rfl) ?_
    clear hK K
    refine tailE_nil ?_
    obtain ⟨W4, hW4⟩ : ∃ W4, W3.setCell ⟨B, 0, none⟩ (.slice Az Lz cz) = W4 := ⟨_, rfl⟩
    have t4 : TB B 4 W W4 := by rw [← hW4]; exact t3.trans (TB.set W3 (Nat.le_refl _) (by omega) 0 _)
    have n5' : NOut B 4 W4 (.slice Az Lz cz) (val b (vals (pre ++ [x]))) := by rw [← hW4]; exact n5.tb (TB.set W3 (Nat.le_refl _) (by omega) 0 _)
    have bz1 : Boxed W4 B 23 (.slice Az Lz cz) := by rw [← hW4]; exact bx1.set _
    have bz2 : Boxed W4 (B + 1) 23 (.slice A7 L7 c7) := by rw [← hW4]; exact bx2.other (by omega) _
    have bz3 : Boxed W4 (B + 1 + 1) 3 (.int .i64 (pre.length : Int)) := by
      have e1 := (hbx.block (B + 1 + 1) (by show B + 1 + 1 < W.heap.size; omega)).trans h3
      have e2 := (hby.block (B + 1 + 1) (by have := t1.size; omega)).trans e1
      have e3 : Boxed W3 (B + 1 + 1) 3 _ := (hbz.block (B + 1 + 1) (by have := t2.size; omega)).trans e2
      rw [← hW4]; exact e3.other (by omega) _
    have bz4 : Boxed W4 (B + 1 + 1 + 1) 56 (.int .u32 (lastV pre : Int)) := by
      have e1 := (hbx.block (B + 1 + 1 + 1) (by show B + 1 + 1 + 1 < W.heap.size; omega)).trans h4
      have e2 := (hby.block (B + 1 + 1 + 1) (by have := t1.size; omega)).trans e1
      have e3 : Boxed W3 (B + 1 + 1 + 1) 56 _ := (hbz.block (B + 1 + 1 + 1) (by have := t2.size; omega)).trans e2
      rw [← hW4]; exact e3.other (by omega) _
    rw [hW4]
    have j0 : W4.cell? ⟨w.heap.size, 0, none⟩ = some (.int .u32 (b : Int)) := (t4.cell (by omega) (.inl hGB)).trans h7
    have j2 := bz2.cell
    have hs4 : B + 4 ≤ W4.heap.size := Nat.le_trans hB4' t4.size
    clear k1_1 k2_1 k1_2 k2_2 k1_3 k2_3 k1 k2 k3 k4 f1 f2 f3 f4 fz1 bx1 bx2 n5
    gi_wp2
    refine wpIn_region_heldE 3 5 (fun w' => w'.cell? ⟨B + 1, 0, none⟩ = some (.slice A7 L7 c7) ∧ w'.cell? ⟨w.heap.size, 0, none⟩ = some (.int .u32 (b : Int))) (hF.inRound l) (by kernel_rfl) (by kernel_rfl) (by kernel_rfl) (by decide) (by kernel_rfl) (fun _ _ _ _ h => h) ⟨j2, j0⟩ ?_
    simp only [List.take_succ_cons, List.take_zero, List.drop_succ_cons, List.drop_zero]
    refine heads_cons (.slice A7 L7 c7) (by rfl) (fun w' ⟨s1, s2⟩ => ?_) ?_
    · go_simp
    refine heads_cons (.int .u32 (b : Int)) (by rfl) (fun w' ⟨s1, s2⟩ => ?_) ?_
    · go_simp
    refine heads_cons (.int .u64 (b : Int)) (by rfl) (fun w' _ => ?_) ?_
    · go_simp
    refine heads_nil ?_
    refine tailE_cons (by rfl) (fun K hK => ?_)
    go_simp
    refine ((hF.inRound l).calls _ _ _ _ _ (of_any b hbx64 _)).mono ?_
    rintro e W5 ⟨vb, rfl, hvb, hb5⟩
    have t5 : TB B 4 W4 W5 := (TB.drew W4).trans (TB.below hb5)
    have j2_5 := (hb5.cell (p := ⟨B + 1, 0, none⟩) (by show B + 1 < W4.heap.size; omega)).trans j2
    have j0_5 := (hb5.cell (p := ⟨w.heap.size, 0, none⟩) (by show w.heap.size < W4.heap.size; omega)).trans j0
    refine hK _ _ (.inr ⟨j2_5, j0_5⟩) ?_
    clear hK K
    refine tailE_cons (by rfl) (fun K hK => ?_)
    go_simp
    refine ((hF.inRound l).calls _ _ _ _ _ (mul_o _ vb _ _ _ ((h6.tb t4).tb t5).n32 hvb.is (by omega) (by omega) (.inr (by omega)))).mono ?_
    rintro e W6 ⟨vm, rfl, hvm, hb6⟩
    have t6 : TB B 4 W4 W6 := t5.trans (TB.below hb6)
    have j2_6 := (hb6.cell (p := ⟨B + 1, 0, none⟩) (by show B + 1 < W5.heap.size; have := t5.size; omega)).trans j2_5
    have j0_6 := (hb6.cell (p := ⟨w.heap.size, 0, none⟩) (by show w.heap.size < W5.heap.size; have := t5.size; omega)).trans j0_5
    obtain ⟨Am, Lm, cm, rfl⟩ : ∃ Am Lm cm, vm = .slice Am Lm cm := (by obtain ⟨A2, c2, e, _⟩ := hvm.is; exact ⟨A2, _, c2, e⟩)
    refine hK _ _ (.inr ⟨j2_6, j0_6⟩) ?_
    clear hK K
    refine tailE_cons (by rfl) (fun K hK => ?_)
    have n6 : NOut B 4 W6 (.slice Am Lm cm) (b ^ (pre ++ [x]).length) := by rw [HNEWW.out]; exact NOut.of_own hvm (by have := t5.size; omega)
    have hkb : ∀ {k t v}, Boxed W4 k t v → Boxed W6 k t v := fun {k t v} h => by
      have e1 := (hb5.block k (by show k < W4.heap.size; exact h.lt)).trans h
      exact (hb6.block k (Nat.lt_of_lt_of_le h.lt t5.size)).trans e1
    have by1 := hkb bz1
    have by2 := hkb bz2
    have by3 := hkb bz3
    have by4 := hkb bz4
    have fy2 := by2.frozen
    go_simp
    refine hK _ _ (.inl rfl) ?_
    clear hK K
    refine tailE_nil ?_
    obtain ⟨W7, hW7⟩ : ∃ W7, W6.setCell ⟨B + 1, 0, none⟩ (.slice Am Lm cm) = W7 := ⟨_, rfl⟩
    have ts7 : TB B 4 W6 W7 := by rw [← hW7]; exact TB.set W6 (by omega) (by omega) 0 _
    have t7 : TB B 4 W W7 := (t4.trans t6).trans ts7
    have m1 : Boxed W7 B 23 (.slice Az Lz cz) := by rw [← hW7]; exact by1.other (by omega) _
    have m2 : Boxed W7 (B + 1) 23 (.slice Am Lm cm) := by rw [← hW7]; exact by2.set _
    have m3 : Boxed W7 (B + 1 + 1) 3 (.int .i64 (pre.length : Int)) := by rw [← hW7]; exact by3.other (by omega) _
    have m4 : Boxed W7 (B + 1 + 1 + 1) 56 (.int .u32 (lastV pre : Int)) := by rw [← hW7]; exact by4.other (by omega) _
    have n5'' := (n5'.tb t6).tb ts7
    have n6' := n6.tb ts7
    rw [hW7]
    have c3 := m3.cell
    have g3' := m3.frozen
    have c4 := m4.cell
    have g4' := m4.frozen
    have hne : ¬ (B + 1 + 1 + 1 = B + 1 + 1) := by omega
    clear j2_5 j2_6 j0_5 j0_6 j2 j0 by1 by2 by3 by4 bz1 bz2 bz3 bz4 fy2 n5' n6
    gi_wp2
    have t9 : TB B 4 W ((W7.setCell ⟨B + 1 + 1, 0, none⟩ (.int .i64 ((pre.length : Int) + 1))).setCell ⟨B + 1 + 1 + 1, 0, none⟩ (.int .u32 ((x.val : Nat) : Int))) :=
      (t7.trans (TB.set W7 (by omega) (by omega) 0 _)).trans (TB.set _ (by omega) (by omega) 0 _)
    have ts9 : TB B 4 W7 ((W7.setCell ⟨B + 1 + 1, 0, none⟩ (.int .i64 ((pre.length : Int) + 1))).setCell ⟨B + 1 + 1 + 1, 0, none⟩ (.int .u32 ((x.val : Nat) : Int))) :=
      (TB.set W7 (by omega) (by omega) 0 _).trans (TB.set _ (by omega) (by omega) 0 _)
    refine ⟨t9.keeps (fun k hk1 hk2 => ?_), t9.kpS, Az, Lz, cz, Am, Lm, cm, (m1.other (by omega) _).other (by omega) _, (m2.other (by omega) _).other (by omega) _, ?_, ?_, n5''.tb ts9, n6'.tb ts9, (t9.cell (by omega) (.inl hGB)).trans h7, t9.belowAt h8 (by omega) (by omega)⟩
    · rcases (show k = B ∨ k = B + 1 ∨ k = B + 1 + 1 ∨ k = B + 1 + 1 + 1 by omega) with rfl | rfl | rfl | rfl
      · exact ⟨_, h1, rfl⟩
      · exact ⟨_, h2, rfl⟩
      · exact ⟨_, h3, rfl⟩
      · exact ⟨_, h4, rfl⟩
    · rw [HNEWL.out]; exact (m3.set _).other (by omega) _
    · rw [lastV_snoc]; exact (m4.other (by omega) _).set _
  case done =>
    rintro D ys W hD rfl ⟨A6, L6, c6, A7, L7, c7, h1, h2, h3, h4, h5, h6, h7, h8⟩ hK
    have hys : vals (fds b hz (dig b p)) = dig b p := vals_fds hz (low_dig hz p)
    have hsum : val b (vals (fds b hz (dig b p))) = p := by rw [hys, val_dig hz]
    rw [hsum] at h5
    have hlast : ¬ lastV (fds b hz (dig b p)) = 0 := by
      unfold lastV
      rw [hys]
      rcases neat_dig hz p with h | ⟨ys, y, h, hy⟩
      · rw [h]; simp
      · rw [h]; simpa using hy
    have k1 := h1.cell
    have k4 := h4.cell
    have hlb := h4.lt
    have hsame : Calls Try.prog 70 #[.slice A6 L6 c6, v1] W (LivesPost W) := same_n _ _ p W h5.n32 (hv1.keep h8) (by omega)
    have hq : Boxed W (w.heap.size + 1) 4 (.bool false) := (h8.block (w.heap.size + 1) hbox1.lt).trans hbox1
    have hbw : Below w.heap.size w W := hbw1.trans (h8.mono (by omega))
    clear hst hfirst
    generalize lastV (fds b hz (dig b p)) = la at *
    have hla : (((la : Nat) : Int) != 0) = true := by simp; omega
    have HSA := Lib.hid hsame
    clear hsame h5 h6 hsum hys
    gi_wp2_with (first
      | ((try refine ⟨hdd _, ?_⟩); gi_at_call 70; refine (hF.calls _ _ _ _ _ HSA.out).mono ?_; rintro e W1 ⟨rfl, hbx⟩
         have k4' := (hbx.cell (p := ⟨B + 1 + 1 + 1, 0, none⟩) hlb).trans k4
         have hbwx := below_at hbw (Nat.le_refl _) hbx
         have hq1' : Boxed W1 (w.heap.size + 1) 4 (.bool false) := (hbx.block _ hq.lt).trans hq
         have hK1 := (hbx.block D (Array.getElem?_eq_some_iff.1 hK).1).trans hK)
      | ((try refine ⟨hdd _, ?_⟩); gi_at_call 30; refine (hF.calls _ _ _ _ _ (lives_any _)).mono ?_; rintro e W2 ⟨rfl, hby⟩
         have hbw2 := below_at hbwx (Nat.le_refl _) hby
         have hq2' : Boxed W2 (w.heap.size + 1) 4 (.bool false) := (hby.block _ hq1'.lt).trans hq1'
         have hqc := hq2'.cell
         have hqf := hq2'.frozen
         have hK2 := (hby.block D (Array.getElem?_eq_some_iff.1 hK1).1).trans hK1))
    have hK' := (KeepsOthers.setCell W2 ⟨w.heap.size + 1, 0, none⟩ (.bool true)).same D _ hK2 rfl
    refine ⟨by simp, .inl ⟨_, _, rfl, run_takeDeferred hK', ?_⟩⟩
    have hc5 := cell_kept (World.cell?_setCell_same' W2 ⟨w.heap.size + 1, 0, none⟩ (.bool true) (by rw [hqc]; rfl)) (grownBy_putObj' _ D (.deferred none)) (fun r e => by cases e; exact ⟨_, hK', rfl⟩)
    refine ⟨.bool true, ?_, rfl, (hbw2.setCell (p := ⟨w.heap.size + 1, 0, none⟩) (by simp) _).trans (belowK_b (w := w) (Nat.le_refl _) _ D _ _ (by have := hbw.size; omega) hK' rfl rfl)⟩
    simp [results, Try.f22, go_sem, hc5]
  case stop =>
    rintro D c pre W hD _ h _
    exact h.elim
set_option maxHeartbeats 4000000 in
set_option maxRecDepth 100000 in
theorem weighted_lo (A : Option Addr) (c L base b : Nat) (xs : List Nat) (w : World) (hA : Nums .u32 w A xs) (hx : Low B32 xs) (hL : L = xs.length) (hc : L ≤ c) (hnil : A = none → c = 0) (hbase : b < B32) (hz : 2 ≤ b) (he : b = base + 2) (hlt : base < 2) :
    Calls Try.prog 22 #[.slice A L c, .int .u32 (base : Int)] w (LivesPost w) := by
  refine (callsIn_wide (n := 6)).1 ?_
  have hF : Free Fence.wide Try.prog := free_wide
  have hfn := hF.fn
  have hdd := hF.room
  have hwh := fun w' (h : Below w.heap.size w w') => whole_own A c L 10 xs w' (hA.keep h) hx hL hc hnil (by omega)
  have lp := whole_len hx 10
  generalize val B32 (xs.take 10) = p at *
  have hof : ∀ w', Calls Try.prog 33 #[.int .u64 1] w' (NatPost w' 1) := fun w' => of_any 1 (by unfold B64; omega) w'
  have hef := eqlFn
  have HWH := Lib.hid hwh
  have HOF := Lib.hid hof
  clear hwh hof hA hx hL hnil
  have hb0 : Below w.heap.size w ((w.alloc (.cells #[.int .u32 (base : Int)] 56)).alloc (.cells #[.bool false] 4)) := ((Below.refl _ _).alloc (Nat.le_refl _) _).alloc (by simp) _
  have hz1 : (base : Int) < 2 := by omega
  have HB2 := Lib.hid (show (base : Int) + 2 = (b : Int) by omega)
  clear he hlt
  generalize hFd : Fence.wide = F at *
  have hro : F.round = none := by rw [← hFd]; rfl
  refine callsIn_of_wp_marks Try.func22 rfl (hfn _) ?_ hro
  simp only [Try.ntmps22, List.size_toArray, List.length_cons, List.length_nil, Nat.reduceAdd, Nat.reduceSub, Array.replicate_succ, Array.replicate_zero, List.push_toArray, List.append_toArray, List.nil_append, List.cons_append]
  gi_wp2_with (first
    | ((try refine ⟨hdd _, ?_⟩); gi_at_call 69; refine (hF.calls _ _ _ _ _ (HWH.out _ hb0)).mono ?_; rintro e w01 ⟨v1, rfl, hv01, hat01, hb01⟩
       have hs01 : w.heap.size + 2 ≤ w01.heap.size := (by have := hb01.size; simp at this; omega)
       have hbox0 : Boxed w01 w.heap.size 56 (.int .u32 (base : Int)) := (hb01.block w.heap.size (by simp; omega)).trans ((Boxed.new w 56 (.int .u32 (base : Int))).alloc _)
       have hbox01 : Boxed w01 (w.heap.size + 1) 4 (.bool false) := (hb01.block (w.heap.size + 1) (by simp)).trans (by have e0 := Boxed.new (w.alloc (.cells #[.int .u32 (base : Int)] 56)) 4 (.bool false); rw [World.size_alloc] at e0; exact e0)
       have hbw01 : Below w.heap.size w w01 := below_at hb0 (Nat.le_refl _) hb01
       have k0 := hbox0.cell
       have kf0 := hbox0.frozen
       obtain ⟨w1, hw1⟩ : ∃ w1, w01.setCell ⟨w.heap.size, 0, none⟩ (.int .u32 ((base : Int) + 2)) = w1 := ⟨_, rfl⟩
       have hs1 : w.heap.size + 2 ≤ w1.heap.size := (by rw [← hw1]; simpa using hs01)
       have hsz1 : w01.heap.size = w1.heap.size := (by rw [← hw1]; rw [World.size_setCell])
       have hq1 : w1.cell? ⟨w.heap.size, 0, none⟩ = some (.int .u32 (b : Int)) := (by rw [← hw1, ← HB2.out]; exact (hbox0.set _).cell)
       have hbox1 : Boxed w1 (w.heap.size + 1) 4 (.bool false) := (by rw [← hw1]; exact hbox01.other (by omega) _)
       have hbw1 : Below w.heap.size w w1 := (by rw [← hw1]; exact hbw01.setCell (p := ⟨w.heap.size, 0, none⟩) (Nat.le_refl _) _)
       have hv1 : N32 w1 v1 p := (by
         rw [← hw1]
         have hn : NOut w.heap.size 1 w01 v1 p := (by
           obtain ⟨A', c', e', hc', hn'⟩ := hv01
           refine ⟨A', c', e', hc', fun hl' => ?_⟩
           obtain ⟨g', off', e1', hg', hcell'⟩ := hn' hl'
           have := hat01 ⟨g', off', none⟩ _ _ (by rw [e', e1'])
           simp at this
           exact ⟨g', off', e1', hg', .inr (by omega), hcell'⟩)
         exact (hn.tb (TB.set w01 (Nat.le_refl _) (by omega) 0 _)).n32)
       clear hbox0 hbox01 hbw01 hv01 hat01 hb01 hs01)
    | ((try refine ⟨hdd _, ?_⟩); gi_at_call 33; refine (hF.calls _ _ _ _ _ (HOF.out _)).mono ?_; rintro e w2 ⟨v2, rfl, hv2, hb2⟩
       obtain ⟨A2, L2, c2, rfl⟩ : ∃ A2 L2 c2, v2 = .slice A2 L2 c2 := (by obtain ⟨A2, c2, e, _⟩ := hv2.is; exact ⟨A2, _, c2, e⟩)
       have hs2 : w1.heap.size + 1 ≤ w2.heap.size := (by have := hb2.size; simp at this; omega)
       have hlt2 : w.heap.size < w2.heap.size := (by omega)
       have hq2 : w2.cell? ⟨w.heap.size, 0, none⟩ = some (.int .u32 (b : Int)) := (hb2.cell (p := ⟨w.heap.size, 0, none⟩) (by simp; omega)).trans (((below_new w1 _).cell (p := ⟨w.heap.size, 0, none⟩) (by show w.heap.size < _; omega)).trans hq1)
       obtain ⟨W0, hW0⟩ : ∃ W0, ((((w2.alloc (.cells #[.slice (some ⟨w1.heap.size, 0, none⟩) 0 0] 23)).alloc (.cells #[.slice A2 L2 c2] 23)).alloc (.cells #[.int .i64 0] 3)).alloc (.cells #[.int .u32 1] 56)) = W0 := ⟨_, rfl⟩
       have hB4 : Below w2.heap.size w2 W0 := (by rw [← hW0]; exact ((((Below.refl _ _).alloc (Nat.le_refl _) _).alloc (by simp) _).alloc (by simp; omega) _).alloc (by simp; omega) _)
       have hq3 := (hB4.cell (p := ⟨w.heap.size, 0, none⟩) hlt2).trans hq2
       have hdg := digits_ok v1 p b W0 ((((hv1.keep (below_new w1 _)).keep hb2)).keep hB4) (by omega) hz)
    | ((try refine ⟨hdd _, ?_⟩); gi_at_call 67; refine (hF.calls _ _ _ _ _ hdg).mono ?_; rintro e w3 ⟨bb, bw, vw, rfl, g1, g2, g3, g4, g5, g6, g7, hb3⟩))
  have hbase2 : b < B32 := hbase
  obtain ⟨B, hB⟩ : ∃ B, w2.heap.size = B := ⟨_, rfl⟩
  have hdl : (dig B64 p).length ≤ 150 := by
    have := words_le (n := p) (K := 5) (by omega)
    omega
  have hw3 : B + 4 ≤ w3.heap.size := by
    have := hb3.size
    rw [← hW0] at this
    simp at this
    omega
  have hfirst : WI b B w.heap.size w1 ([] : List (Fin b)) w3 := by
    have e1 : Boxed W0 B 23 (.slice (some ⟨w1.heap.size, 0, none⟩) 0 0) := by
      rw [← hW0, ← hB]; exact (((Boxed.new w2 23 _).alloc _).alloc _).alloc _
    have e2 : Boxed W0 (B + 1) 23 (.slice A2 L2 c2) := by
      rw [← hW0, ← hB]
      have := Boxed.new (w2.alloc (.cells #[.slice (some ⟨w1.heap.size, 0, none⟩) 0 0] 23)) 23 (.slice A2 L2 c2)
      rw [World.size_alloc] at this
      exact (this.alloc _).alloc _
    have e3 : Boxed W0 (B + 1 + 1) 3 (.int .i64 0) := by
      rw [← hW0, ← hB]
      have := Boxed.new ((w2.alloc (.cells #[.slice (some ⟨w1.heap.size, 0, none⟩) 0 0] 23)).alloc (.cells #[.slice A2 L2 c2] 23)) 3 (.int .i64 0)
      rw [World.size_alloc, World.size_alloc] at this
      exact this.alloc _
    have e4 : Boxed W0 (B + 1 + 1 + 1) 56 (.int .u32 1) := by
      rw [← hW0, ← hB]
      have := Boxed.new (((w2.alloc (.cells #[.slice (some ⟨w1.heap.size, 0, none⟩) 0 0] 23)).alloc (.cells #[.slice A2 L2 c2] 23)).alloc (.cells #[.int .i64 0] 3)) 56 (.int .u32 1)
      rw [World.size_alloc, World.size_alloc, World.size_alloc] at this
      exact this
    have hkb : ∀ {k t v}, Boxed W0 k t v → Boxed w3 k t v := fun {k t v} h => (hb3.block k h.lt).trans h
    have hbl1 : Below w1.heap.size w1 w3 := below_at (below_at (below_at (below_new w1 _) (Nat.le_refl _) hb2) (Nat.le_refl _) hB4) (Nat.le_refl _) hb3
    refine ⟨_, _, _, _, _, _, hkb e1, hkb e2, hkb e3, hkb e4, nout_zero _ _ _ _ _, ?_, (hb3.cell (p := ⟨w.heap.size, 0, none⟩) (by have := hB4.size; show w.heap.size < W0.heap.size; omega)).trans hq3, hbl1⟩
    · have h1 : NOut B 4 w2 (.slice A2 L2 c2) 1 := NOut.of_lt hv2.is (by omega)
      exact (h1.tb (TB.below hB4)).tb (TB.below hb3)
  have hst := digits_stops F hF hro (RBox B 4) 5 b bb bw p vw w3 hz hbase hdl g2 g5 g4 g6 g7.is (rbox_rb _) (fun k hk => by have := hk.2; omega)
  have hN : (dig b p).length ≤ 320 := len_base hz lp
  have hxl : ∀ x : Fin b, (IntKind.u64.wrap ((x.val : Nat) : Int)) = ((x.val : Nat) : Int) := fun x => by
    have := x.2; unfold B32 at hbase; rw [IntKind.wrap_u64]; omega
  rw [hB]
  refine wpIn_rangeFunc_ownG hro (by omega) (gf := 103) (lb := #[.pointer (some ⟨bb, 0, none⟩), .pointer (some ⟨bw, 0, none⟩)]) rfl (hfn _) (enters_of Try.func103 (by kernel_rfl) rfl) hst kpS_t (kpS_b (rbox_rb _) (Nat.le_refl _)) (Below.refl _ _) (fun _ => rfl)
    (WI b B w.heap.size w1) (fun _ _ _ => False) (wi_own (by omega)) (fun _ _ _ _ _ hs _ _ => hs) hfirst ?a1 ?assign ?body ?done ?stop
  case assign =>
    intro l x W K hK
    gi_wp2
    exact hK
  case body =>
    rintro l pre x W ⟨A6, L6, c6, A7, L7, c7, h1, h2, h3, h4, h5, h6, h7, h8⟩ hlen
    have k1 := h1.cell
    have k2 := h2.cell
    have k3 := h3.cell
    have k4 := h4.cell
    have f1 := h1.frozen
    have f2 := h2.frozen
    have f3 := h3.frozen
    have f4 := h4.frozen
    have hxb : ¬ (b : Int) ≤ ((x.val : Nat) : Int) := by have := x.2; omega
    have hc400 : ¬ (400 : Int) < (pre.length : Int) := by omega
    have hfi := (hF.inRound l).fn
    have hdi := (hF.inRound l).room
    have hxw := hxl x
    have hbw : IntKind.u64.wrap (b : Int) = (b : Int) := by unfold B32 at hbase; rw [IntKind.wrap_u64]; omega
    have hB4' : B + 4 ≤ W.heap.size := by have := h4.lt; omega
    have hGB : w.heap.size < B := by omega
    have lb : (dig B32 b).length ≤ 1 := small32 hbase
    have lx : (dig B32 x.val).length ≤ 1 := small32 (Nat.lt_trans x.2 hbase)
    have lw : (dig B32 (b ^ pre.length)).length ≤ 321 := len_pow hz (Nat.le_of_lt hbase) (by omega)
    have ls : (dig B32 (val b (vals pre))).length ≤ 320 := len_vals hz (Nat.le_of_lt hbase) pre (by omega)
    have lwx := len_mul lw lx
    have hnew : val b (vals (pre ++ [x])) = val b (vals pre) + b ^ pre.length * x.val := by rw [vals_snoc, val_snoc, vals_len]
    have hneww : b ^ (pre ++ [x]).length = b ^ pre.length * b := by rw [List.length_append, List.length_singleton, Nat.pow_succ]
    have hnewl : ((pre ++ [x]).length : Int) = (pre.length : Int) + 1 := by rw [List.length_append, List.length_singleton]; omega
    have hbx64 : b < B64 := by unfold B32 at hbase; unfold B64; omega
    have hx64 : x.val < B64 := Nat.lt_trans x.2 hbx64
    have HNEW := Lib.hid hnew
    have HNEWW := Lib.hid hneww
    have HNEWL := Lib.hid hnewl
    clear hnew hneww hnewl hst hfirst hxl HWH HOF lp hN hdl
    gi_wp2
    refine wpIn_region_heldE 4 7 (fun w' => w'.cell? ⟨B, 0, none⟩ = some (.slice A6 L6 c6) ∧ w'.cell? ⟨B + 1, 0, none⟩ = some (.slice A7 L7 c7)) (hF.inRound l) (by kernel_rfl) (by kernel_rfl) (by kernel_rfl) (by decide) (by kernel_rfl) (fun _ _ _ _ h => h) ⟨k1, k2⟩ ?_
    simp only [List.take_succ_cons, List.take_zero, List.drop_succ_cons, List.drop_zero]
    refine heads_cons (.slice A6 L6 c6) (by rfl) (fun w' ⟨s1, s2⟩ => ?_) ?_
    · go_simp
    refine heads_cons (.slice A7 L7 c7) (by rfl) (fun w' ⟨s1, s2⟩ => ?_) ?_
    · go_simp
    refine heads_cons (.int .u32 ((x.val : Nat) : Int)) (by rfl) (fun w' _ => ?_) ?_
    · go_simp
    refine heads_cons (.int .u64 ((x.val : Nat) : Int)) (by rfl) (fun w' _ => ?_) ?_
    · go_simp
    refine heads_nil ?_
    refine tailE_cons (by rfl) (fun K hK => ?_)
    go_simp
    refine ((hF.inRound l).calls _ _ _ _ _ (of_any x.val hx64 _)).mono ?_
    rintro e W1 ⟨vx, rfl, hvx, hbx⟩
    have t1 : TB B 4 W W1 := (TB.drew W).trans (TB.below hbx)
    have k1_1 := (hbx.cell (p := ⟨B, 0, none⟩) (by show B < W.heap.size; omega)).trans k1
    have k2_1 := (hbx.cell (p := ⟨B + 1, 0, none⟩) (by show B + 1 < W.heap.size; omega)).trans k2
    refine hK _ _ (.inr ⟨k1_1, k2_1⟩) ?_
    clear hK K
    refine tailE_cons (by rfl) (fun K hK => ?_)
    go_simp
    refine ((hF.inRound l).calls _ _ _ _ _ (mul_o _ vx _ _ _ (h6.tb t1).n32 hvx.is (by omega) (by omega) (.inr (by omega)))).mono ?_
    rintro e W2 ⟨vy, rfl, hvy, hby⟩
    have t2 : TB B 4 W W2 := t1.trans (TB.below hby)
    have k1_2 := (hby.cell (p := ⟨B, 0, none⟩) (by show B < W1.heap.size; have := t1.size; omega)).trans k1_1
    have k2_2 := (hby.cell (p := ⟨B + 1, 0, none⟩) (by show B + 1 < W1.heap.size; have := t1.size; omega)).trans k2_1
    refine hK _ _ (.inr ⟨k1_2, k2_2⟩) ?_
    clear hK K
    refine tailE_cons (by rfl) (fun K hK => ?_)
    go_simp
    refine ((hF.inRound l).calls _ _ _ _ _ (add_o _ vy _ _ _ (h5.tb t2).n32 hvy.is (by omega) (by omega))).mono ?_
    rintro e W3 ⟨vz, rfl, hvz, hbz⟩
    have t3 : TB B 4 W W3 := t2.trans (TB.below hbz)
    have k1_3 := (hbz.cell (p := ⟨B, 0, none⟩) (by show B < W2.heap.size; have := t2.size; omega)).trans k1_2
    have k2_3 := (hbz.cell (p := ⟨B + 1, 0, none⟩) (by show B + 1 < W2.heap.size; have := t2.size; omega)).trans k2_2
    obtain ⟨Az, Lz, cz, rfl⟩ : ∃ Az Lz cz, vz = .slice Az Lz cz := (by obtain ⟨A2, c2, e, _⟩ := hvz.is; exact ⟨A2, _, c2, e⟩)
    refine hK _ _ (.inr ⟨k1_3, k2_3⟩) ?_
    clear hK K
    refine tailE_cons (by rfl) (fun K hK => ?_)
    have n5 : NOut B 4 W3 (.slice Az Lz cz) (val b (vals (pre ++ [x]))) := by rw [HNEW.out]; exact NOut.of_own hvz (by have := t2.size; omega)
    have bx1 : Boxed W3 B 23 (.slice A6 L6 c6) := by
      have e1 := (hbx.block B (by show B < W.heap.size; omega)).trans h1
      have e2 := (hby.block B (by have := t1.size; omega)).trans e1
      exact (hbz.block B (by have := t2.size; omega)).trans e2
    have bx2 : Boxed W3 (B + 1) 23 (.slice A7 L7 c7) := by
      have e1 := (hbx.block (B + 1) (by show B + 1 < W.heap.size; omega)).trans h2
      have e2 := (hby.block (B + 1) (by have := t1.size; omega)).trans e1
      exact (hbz.block (B + 1) (by have := t2.size; omega)).trans e2
    have fz1 := bx1.frozen
    go_simp
    refine hK _ _ (.inl rfl) ?_
    clear hK K
    refine tailE_nil ?_
    obtain ⟨W4, hW4⟩ : ∃ W4, W3.setCell ⟨B, 0, none⟩ (.slice Az Lz cz) = W4 := ⟨_, rfl⟩
    have t4 : TB B 4 W W4 := by rw [← hW4]; exact t3.trans (TB.set W3 (Nat.le_refl _) (by omega) 0 _)
    have n5' : NOut B 4 W4 (.slice Az Lz cz) (val b (vals (pre ++ [x]))) := by rw [← hW4]; exact n5.tb (TB.set W3 (Nat.le_refl _) (by omega) 0 _)
    have bz1 : Boxed W4 B 23 (.slice Az Lz cz) := by rw [← hW4]; exact bx1.set _
    have bz2 : Boxed W4 (B + 1) 23 (.slice A7 L7 c7) := by rw [← hW4]; exact bx2.other (by omega) _
    have bz3 : Boxed W4 (B + 1 + 1) 3 (.int .i64 (pre.length : Int)) := by
      have e1 := (hbx.block (B + 1 + 1) (by show B + 1 + 1 < W.heap.size; omega)).trans h3
      have e2 := (hby.block (B + 1 + 1) (by have := t1.size; omega)).trans e1
      have e3 : Boxed W3 (B + 1 + 1) 3 _ := (hbz.block (B + 1 + 1) (by have := t2.size; omega)).trans e2
      rw [← hW4]; exact e3.other (by omega) _
    have bz4 : Boxed W4 (B + 1 + 1 + 1) 56 (.int .u32 (lastV pre : Int)) := by
      have e1 := (hbx.block (B + 1 + 1 + 1) (by show B + 1 + 1 + 1 < W.heap.size; omega)).trans h4
      have e2 := (hby.block (B + 1 + 1 + 1) (by have := t1.size; omega)).trans e1
      have e3 : Boxed W3 (B + 1 + 1 + 1) 56 _ := (hbz.block (B + 1 + 1 + 1) (by have := t2.size; omega)).trans e2
      rw [← hW4]; exact e3.other (by omega) _
    rw [hW4]
    have j0 : W4.cell? ⟨w.heap.size, 0, none⟩ = some (.int .u32 (b : Int)) := (t4.cell (by omega) (.inl hGB)).trans h7
    have j2 := bz2.cell
    have hs4 : B + 4 ≤ W4.heap.size := Nat.le_trans hB4' t4.size
    clear k1_1 k2_1 k1_2 k2_2 k1_3 k2_3 k1 k2 k3 k4 f1 f2 f3 f4 fz1 bx1 bx2 n5
    gi_wp2
    refine wpIn_region_heldE 3 5 (fun w' => w'.cell? ⟨B + 1, 0, none⟩ = some (.slice A7 L7 c7) ∧ w'.cell? ⟨w.heap.size, 0, none⟩ = some (.int .u32 (b : Int))) (hF.inRound l) (by kernel_rfl) (by kernel_rfl) (by kernel_rfl) (by decide) (by kernel_rfl) (fun _ _ _ _ h => h) ⟨j2, j0⟩ ?_
    simp only [List.take_succ_cons, List.take_zero, List.drop_succ_cons, List.drop_zero]
    refine heads_cons (.slice A7 L7 c7) (by rfl) (fun w' ⟨s1, s2⟩ => ?_) ?_
    · go_simp
    refine heads_cons (.int .u32 (b : Int)) (by rfl) (fun w' ⟨s1, s2⟩ => ?_) ?_
    · go_simp
    refine heads_cons (.int .u64 (b : Int)) (by rfl) (fun w' _ => ?_) ?_
    · go_simp
    refine heads_nil ?_
    refine tailE_cons (by rfl) (fun K hK => ?_)
    go_simp
    refine ((hF.inRound l).calls _ _ _ _ _ (of_any b hbx64 _)).mono ?_
    rintro e W5 ⟨vb, rfl, hvb, hb5⟩
    have t5 : TB B 4 W4 W5 := (TB.drew W4).trans (TB.below hb5)
    have j2_5 := (hb5.cell (p := ⟨B + 1, 0, none⟩) (by show B + 1 < W4.heap.size; omega)).trans j2
    have j0_5 := (hb5.cell (p := ⟨w.heap.size, 0, none⟩) (by show w.heap.size < W4.heap.size; omega)).trans j0
    refine hK _ _ (.inr ⟨j2_5, j0_5⟩) ?_
    clear hK K
    refine tailE_cons (by rfl) (fun K hK => ?_)
    go_simp
    refine ((hF.inRound l).calls _ _ _ _ _ (mul_o _ vb _ _ _ ((h6.tb t4).tb t5).n32 hvb.is (by omega) (by omega) (.inr (by omega)))).mono ?_
    rintro e W6 ⟨vm, rfl, hvm, hb6⟩
    have t6 : TB B 4 W4 W6 := t5.trans (TB.below hb6)
    have j2_6 := (hb6.cell (p := ⟨B + 1, 0, none⟩) (by show B + 1 < W5.heap.size; have := t5.size; omega)).trans j2_5
    have j0_6 := (hb6.cell (p := ⟨w.heap.size, 0, none⟩) (by show w.heap.size < W5.heap.size; have := t5.size; omega)).trans j0_5
    obtain ⟨Am, Lm, cm, rfl⟩ : ∃ Am Lm cm, vm = .slice Am Lm cm := (by obtain ⟨A2, c2, e, _⟩ := hvm.is; exact ⟨A2, _, c2, e⟩)
    refine hK _ _ (.inr ⟨j2_6, j0_6⟩) ?_
    clear hK K
    refine tailE_cons (by rfl) (fun K hK => ?_)
    have n6 : NOut B 4 W6 (.slice Am Lm cm) (b ^ (pre ++ [x]).length) := by rw [HNEWW.out]; exact NOut.of_own hvm (by have := t5.size; omega)
    have hkb : ∀ {k t v}, Boxed W4 k t v → Boxed W6 k t v := fun {k t v} h => by
      have e1 := (hb5.block k (by show k < W4.heap.size; exact h.lt)).trans h
      exact (hb6.block k (Nat.lt_of_lt_of_le h.lt t5.size)).trans e1
    have by1 := hkb bz1
    have by2 := hkb bz2
    have by3 := hkb bz3
    have by4 := hkb bz4
    have fy2 := by2.frozen
    go_simp
    refine hK _ _ (.inl rfl) ?_
    clear hK K
    refine tailE_nil ?_
    obtain ⟨W7, hW7⟩ : ∃ W7, W6.setCell ⟨B + 1, 0, none⟩ (.slice Am Lm cm) = W7 := ⟨_, rfl⟩
    have ts7 : TB B 4 W6 W7 := by rw [← hW7]; exact TB.set W6 (by omega) (by omega) 0 _
    have t7 : TB B 4 W W7 := (t4.trans t6).trans ts7
    have m1 : Boxed W7 B 23 (.slice Az Lz cz) := by rw [← hW7]; exact by1.other (by omega) _
    have m2 : Boxed W7 (B + 1) 23 (.slice Am Lm cm) := by rw [← hW7]; exact by2.set _
    have m3 : Boxed W7 (B + 1 + 1) 3 (.int .i64 (pre.length : Int)) := by rw [← hW7]; exact by3.other (by omega) _
    have m4 : Boxed W7 (B + 1 + 1 + 1) 56 (.int .u32 (lastV pre : Int)) := by rw [← hW7]; exact by4.other (by omega) _
    have n5'' := (n5'.tb t6).tb ts7
    have n6' := n6.tb ts7
    rw [hW7]
    have c3 := m3.cell
    have g3' := m3.frozen
    have c4 := m4.cell
    have g4' := m4.frozen
    have hne : ¬ (B + 1 + 1 + 1 = B + 1 + 1) := by omega
    clear j2_5 j2_6 j0_5 j0_6 j2 j0 by1 by2 by3 by4 bz1 bz2 bz3 bz4 fy2 n5' n6
    gi_wp2
    have t9 : TB B 4 W ((W7.setCell ⟨B + 1 + 1, 0, none⟩ (.int .i64 ((pre.length : Int) + 1))).setCell ⟨B + 1 + 1 + 1, 0, none⟩ (.int .u32 ((x.val : Nat) : Int))) :=
      (t7.trans (TB.set W7 (by omega) (by omega) 0 _)).trans (TB.set _ (by omega) (by omega) 0 _)
    have ts9 : TB B 4 W7 ((W7.setCell ⟨B + 1 + 1, 0, none⟩ (.int .i64 ((pre.length : Int) + 1))).setCell ⟨B + 1 + 1 + 1, 0, none⟩ (.int .u32 ((x.val : Nat) : Int))) :=
      (TB.set W7 (by omega) (by omega) 0 _).trans (TB.set _ (by omega) (by omega) 0 _)
    refine ⟨t9.keeps (fun k hk1 hk2 => ?_), t9.kpS, Az, Lz, cz, Am, Lm, cm, (m1.other (by omega) _).other (by omega) _, (m2.other (by omega) _).other (by omega) _, ?_, ?_, n5''.tb ts9, n6'.tb ts9, (t9.cell (by omega) (.inl hGB)).trans h7, t9.belowAt h8 (by omega) (by omega)⟩
    · rcases (show k = B ∨ k = B + 1 ∨ k = B + 1 + 1 ∨ k = B + 1 + 1 + 1 by omega) with rfl | rfl | rfl | rfl
      · exact ⟨_, h1, rfl⟩
      · exact ⟨_, h2, rfl⟩
      · exact ⟨_, h3, rfl⟩
      · exact ⟨_, h4, rfl⟩
    · rw [HNEWL.out]; exact (m3.set _).other (by omega) _
    · rw [lastV_snoc]; exact (m4.other (by omega) _).set _
  case done =>
    rintro D ys W hD rfl ⟨A6, L6, c6, A7, L7, c7, h1, h2, h3, h4, h5, h6, h7, h8⟩ hK
    have hys : vals (fds b hz (dig b p)) = dig b p := vals_fds hz (low_dig hz p)
    have hsum : val b (vals (fds b hz (dig b p))) = p := by rw [hys, val_dig hz]
    rw [hsum] at h5
    have hlast : ¬ lastV (fds b hz (dig b p)) = 0 := by
      unfold lastV
      rw [hys]
      rcases neat_dig hz p with h | ⟨ys, y, h, hy⟩
      · rw [h]; simp
      · rw [h]; simpa using hy
    have k1 := h1.cell
    have k4 := h4.cell
    have hlb := h4.lt
    have hsame : Calls Try.prog 70 #[.slice A6 L6 c6, v1] W (LivesPost W) := same_n _ _ p W h5.n32 (hv1.keep h8) (by omega)
    have hq : Boxed W (w.heap.size + 1) 4 (.bool false) := (h8.block (w.heap.size + 1) hbox1.lt).trans hbox1
    have hbw : Below w.heap.size w W := hbw1.trans (h8.mono (by omega))
    clear hst hfirst
    generalize lastV (fds b hz (dig b p)) = la at *
    have hla : (((la : Nat) : Int) != 0) = true := by simp; omega
    have HSA := Lib.hid hsame
    clear hsame h5 h6 hsum hys
    gi_wp2_with (first
      | ((try refine ⟨hdd _, ?_⟩); gi_at_call 70; refine (hF.calls _ _ _ _ _ HSA.out).mono ?_; rintro e W1 ⟨rfl, hbx⟩
         have k4' := (hbx.cell (p := ⟨B + 1 + 1 + 1, 0, none⟩) hlb).trans k4
         have hbwx := below_at hbw (Nat.le_refl _) hbx
         have hq1' : Boxed W1 (w.heap.size + 1) 4 (.bool false) := (hbx.block _ hq.lt).trans hq
         have hK1 := (hbx.block D (Array.getElem?_eq_some_iff.1 hK).1).trans hK)
      | ((try refine ⟨hdd _, ?_⟩); gi_at_call 30; refine (hF.calls _ _ _ _ _ (lives_any _)).mono ?_; rintro e W2 ⟨rfl, hby⟩
         have hbw2 := below_at hbwx (Nat.le_refl _) hby
         have hq2' : Boxed W2 (w.heap.size + 1) 4 (.bool false) := (hby.block _ hq1'.lt).trans hq1'
         have hqc := hq2'.cell
         have hqf := hq2'.frozen
         have hK2 := (hby.block D (Array.getElem?_eq_some_iff.1 hK1).1).trans hK1))
    have hK' := (KeepsOthers.setCell W2 ⟨w.heap.size + 1, 0, none⟩ (.bool true)).same D _ hK2 rfl
    refine ⟨by simp, .inl ⟨_, _, rfl, run_takeDeferred hK', ?_⟩⟩
    have hc5 := cell_kept (World.cell?_setCell_same' W2 ⟨w.heap.size + 1, 0, none⟩ (.bool true) (by rw [hqc]; rfl)) (grownBy_putObj' _ D (.deferred none)) (fun r e => by cases e; exact ⟨_, hK', rfl⟩)
    refine ⟨.bool true, ?_, rfl, (hbw2.setCell (p := ⟨w.heap.size + 1, 0, none⟩) (by simp) _).trans (belowK_b (w := w) (Nat.le_refl _) _ D _ _ (by have := hbw.size; omega) hK' rfl rfl)⟩
    simp [results, Try.f22, go_sem, hc5]
  case stop =>
    rintro D c pre W hD _ h _
    exact h.elim

theorem weighted_walk (A : Option Addr) (c L base : Nat) (xs : List Nat) (w : World) (hA : Nums .u32 w A xs) (hx : Low B32 xs) (hL : L = xs.length) (hc : L ≤ c) (hnil : A = none → c = 0) (hbase : base < B32) :
    Calls Try.prog 22 #[.slice A L c, .int .u32 (base : Int)] w (LivesPost w) := by
  rcases Nat.lt_or_ge base 2 with h | h
  · exact weighted_lo A c L base (base + 2) xs w hA hx hL hc hnil (by unfold B32; omega) (by omega) rfl h
  · exact weighted_hi A c L base base xs w hA hx hL hc hnil hbase h rfl
end Go.Proofs.Ytaegkhdkhgemmaa
