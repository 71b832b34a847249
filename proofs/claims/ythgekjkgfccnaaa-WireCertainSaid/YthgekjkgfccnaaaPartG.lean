/- Part of the proof of WireCertain: DivSt, LongDiv, DivW, RootW, RootApi, DivM. -/
import Derived.Test.YthgekjkgfccnaaaPartF
import Derived.Test.YthgekjkgfccnaaaPartD
import Derived.Test.YthgekjkgfccnaaaPartE
/- Plain laws: long division (Knuth's D): what a round leaves. -/
namespace Go.Proofs.Num

theorem val_cons (b x : Nat) (xs : List Nat) : val b (x :: xs) = x + b * val b xs := rfl
theorem val_drop_at (b : Nat) {zs : List Nat} {j v : Nat} (h : zs[j]? = some v) : val b (zs.drop j) = v + b * val b (zs.drop (j + 1)) := by
  obtain ⟨hj, he⟩ := List.getElem?_eq_some_iff.1 h
  rw [List.drop_eq_getElem_cons hj, he]; rfl
theorem val_drop_seg (b : Nat) {zs : List Nat} {j n : Nat} (h : j + n ≤ zs.length) : val b (zs.drop j) = val b (seg zs j n) + b ^ n * val b (zs.drop (j + n)) := by
  have := val_take_drop b (zs.drop j) n (by rw [List.length_drop]; omega)
  rw [List.drop_drop] at this
  exact this
theorem drop_congr {zs ys : List Nat} {k : Nat} (h : ∀ i, k ≤ i → zs[i]? = ys[i]?) : zs.drop k = ys.drop k := by
  apply List.ext_getElem?
  intro i
  rw [List.getElem?_drop, List.getElem?_drop]
  exact h _ (by omega)
theorem take_congr {zs ys : List Nat} {k : Nat} (h : ∀ i, i < k → zs[i]? = ys[i]?) : zs.take k = ys.take k := by
  apply List.ext_getElem?
  intro i
  rw [List.getElem?_take, List.getElem?_take]
  split
  · exact h _ (by omega)
  · rfl
theorem same_rest {P a c x y : Nat} (ha : a < P) (hc : c < P) (h : a + P * x = c + P * y) : a = c ∧ x = y := by
  rcases Nat.lt_trichotomy x y with h1 | h1 | h1
  · have := Nat.mul_le_mul_left P (show x + 1 ≤ y from h1); rw [Nat.mul_add] at this; omega
  · subst h1; omega
  · have := Nat.mul_le_mul_left P (show y + 1 ≤ x from h1); rw [Nat.mul_add] at this; omega

/-- The quotient's digits from k on are found; what is left of a is in rs. -/
structure LongSt (b : Nat) (us bs : List Nat) (k : Nat) (rs qs : List Nat) : Prop where
  rlen : rs.length = us.length + 1
  qlen : qs.length + bs.length = us.length + 1
  rlow : Low b rs
  qlow : Low b qs
  zero : ∀ (i v : Nat), i < k → qs[i]? = some v → v = 0
  eq : val b us = val b qs * val b bs + val b rs
  top : val b (rs.drop k) < val b bs

theorem LongSt.start {b : Nat} (hb : 2 ≤ b) {us bs : List Nat} {K : Nat} (ha : Low b us) (hbs : Neat bs) (hn : 0 < bs.length) (hK : K + bs.length = us.length + 1) : LongSt b us bs K (us ++ [0]) (List.replicate K 0) := by
  refine ⟨by simp, by simpa using hK, ha.append (Low.cons (by omega) (Low.nil _)), Low.replicate (by omega) _, fun i v _ hv => List.eq_of_mem_replicate (List.mem_of_getElem? hv), ?_, ?_⟩
  · rw [val_replicate, val_snoc]; simp
  · rw [List.drop_append_of_le_length (by omega), val_snoc, Nat.mul_zero, Nat.add_zero]
    have h1 := val_lt b _ (ha.drop K)
    have h2 := neat_ge (b := b) hbs hn
    rw [List.length_drop, show us.length - K = bs.length - 1 by omega] at h1
    omega

/-- What is taken from the words from j on, and the word above. -/
theorem LongSt.part {b : Nat} {us bs rs qs : List Nat} {j n t : Nat} (h : LongSt b us bs (j + 1) rs qs) (hbl : Low b bs) (hn : bs.length = n) (ht : rs[j + n]? = some t) (hj : j < qs.length) :
    val b (rs.drop j) = val b (seg rs j n) + b ^ n * t ∧ val b (rs.drop (j + n + 1)) = 0 ∧ val b (rs.drop j) < b * val b bs := by
  have hl := h.rlen
  have hq := h.qlen
  obtain ⟨v, hv⟩ : ∃ v, rs[j]? = some v := ⟨rs[j]'(by omega), List.getElem?_eq_getElem _⟩
  have hvl := h.rlow v (List.mem_of_getElem? hv)
  have h1 := val_drop_at b hv
  have h2 := h.top
  have h3 : val b (rs.drop j) < b * val b bs := by
    have := Nat.mul_le_mul_left b (show val b (rs.drop (j + 1)) + 1 ≤ val b bs from h2)
    rw [Nat.mul_add] at this
    omega
  have h4 := val_drop_seg b (zs := rs) (j := j) (n := n) (by omega)
  have h5 := val_drop_at b ht
  have h6 := val_lt b bs hbl
  rw [hn] at h6
  have h7 : val b (rs.drop (j + n + 1)) = 0 := by
    rcases Nat.eq_zero_or_pos (val b (rs.drop (j + n + 1))) with h0 | h0
    · exact h0
    · exfalso
      have e1 : b * 1 ≤ b * val b (rs.drop (j + n + 1)) := Nat.mul_le_mul_left _ h0
      have e2 : b ^ n * b ≤ b ^ n * val b (rs.drop (j + n)) := Nat.mul_le_mul_left _ (by omega)
      have e3 : b * val b bs ≤ b * b ^ n := Nat.mul_le_mul_left _ (by omega)
      rw [Nat.mul_comm b (b ^ n)] at e3
      omega
  refine ⟨?_, h7, h3⟩
  rw [h4, h5, h7]; simp

theorem LongSt.close {b : Nat} (hb : 2 ≤ b) {us bs rs qs zs : List Nat} {j n t q : Nat} (h : LongSt b us bs (j + 1) rs qs) (hbl : Low b bs) (hn : bs.length = n) (ht : rs[j + n]? = some t) (hj : j < qs.length)
    (hzl : zs.length = rs.length) (hzlow : Low b zs) (far : ∀ i, i < j ∨ j + n ≤ i → zs[i]? = rs[i]?) (hX : val b (rs.drop j) = q * val b bs + val b (seg zs j n)) (hS : val b (seg zs j n) < val b bs) (hq : q < b) :
    LongSt b us bs j (zs.set (j + n) 0) (qs.set j q) := by
  obtain ⟨_, p2, _⟩ := h.part hbl hn ht hj
  have hl := h.rlen
  have hql := h.qlen
  have hjn : j + n < zs.length := by omega
  have ht' : (zs.set (j + n) 0)[j + n]? = some 0 := by rw [List.getElem?_set_self hjn]
  have hd : val b ((zs.set (j + n) 0).drop j) = val b (seg zs j n) := by
    rw [val_drop_seg b (n := n) (by rw [List.length_set]; omega), seg_set_far (by omega), val_drop_at b ht']
    have : (zs.set (j + n) 0).drop (j + n + 1) = rs.drop (j + n + 1) := drop_congr fun i hi => by
      rw [List.getElem?_set, if_neg (by omega)]; exact far i (by omega)
    rw [this, p2]; simp
  have htk : (zs.set (j + n) 0).take j = rs.take j := take_congr fun i hi => by
    rw [List.getElem?_set, if_neg (by omega)]; exact far i (by omega)
  refine ⟨by rw [List.length_set]; omega, by rw [List.length_set]; omega, hzlow.set (by omega), h.qlow.set hq, fun i v hi hv => ?_, ?_, by rw [hd]; exact hS⟩
  · rw [List.getElem?_set, if_neg (by omega)] at hv
    exact h.zero i v (by omega) hv
  · have e1 := val_take_drop b (zs.set (j + n) 0) j (by rw [List.length_set]; omega)
    have e2 := val_take_drop b rs j (by omega)
    have e3 := val_set b qs j q hj
    have hz : qs[j] = 0 := h.zero j _ (by omega) (List.getElem?_eq_getElem hj)
    rw [hz, Nat.mul_zero, Nat.add_zero] at e3
    rw [hd, htk] at e1
    rw [hX] at e2
    rw [h.eq, e1, e2, e3]
    grind

/-- The digit was right. -/
theorem LongSt.right {b : Nat} (hb : 2 ≤ b) {us bs rs qs zs : List Nat} {j n t d ov : Nat} (h : LongSt b us bs (j + 1) rs qs) (hbl : Low b bs) (hn : bs.length = n) (ht : rs[j + n]? = some t) (hj : j < qs.length)
    (hs : SubScSt b rs bs d j n zs ov) (hd : val b (rs.drop j) < d * val b bs + val b bs) (hdb : d < b) (ho : ov ≤ t) : LongSt b us bs j (zs.set (j + n) 0) (qs.set j d) := by
  obtain ⟨p1, _, _⟩ := h.part hbl hn ht hj
  have hl := h.rlen
  have hql := h.qlen
  have e := hs.eq
  rw [List.take_of_length_le (by omega), Nat.mul_comm] at e
  have hvb := val_lt b bs hbl
  rw [hn] at hvb
  have hX : val b (rs.drop j) = d * val b bs + val b (seg zs j n) := by
    have h1 : b ^ n * ov ≤ b ^ n * t := Nat.mul_le_mul_left _ ho
    rcases Nat.lt_or_ge ov t with h2 | h2
    · have h3 := Nat.mul_le_mul_left (b ^ n) (show ov + 1 ≤ t from h2)
      rw [Nat.mul_add] at h3
      omega
    · obtain rfl : ov = t := by omega
      omega
  exact h.close hb hbl hn ht hj hs.len hs.low hs.far hX (by omega) hdb

/-- The digit was one too great. -/
theorem LongSt.less {b : Nat} (hb : 2 ≤ b) {us bs rs qs zs ys : List Nat} {j n t d ov c : Nat} (h : LongSt b us bs (j + 1) rs qs) (hbl : Low b bs) (hn : bs.length = n) (ht : rs[j + n]? = some t) (hj : j < qs.length)
    (hs : SubScSt b rs bs d j n zs ov) (ha : AddSt b zs bs j n ys c) (hd : d * val b bs ≤ val b (rs.drop j) + val b bs) (hdb : d < b) (ho : t < ov) : 0 < d ∧ LongSt b us bs j (ys.set (j + n) 0) (qs.set j (d - 1)) := by
  obtain ⟨p1, _, _⟩ := h.part hbl hn ht hj
  have hl := h.rlen
  have hql := h.qlen
  have e := hs.eq
  have e2 := ha.eq
  rw [List.take_of_length_le (by omega), Nat.mul_comm] at e
  rw [List.take_of_length_le (by omega)] at e2
  have hvb := val_lt b bs hbl
  rw [hn] at hvb
  have hz1 := val_lt b _ (seg_low hs.low j n)
  rw [seg_len (by rw [hs.len]; omega)] at hz1
  have hy1 := val_lt b _ (seg_low ha.low j n)
  rw [seg_len (by rw [ha.len, hs.len]; omega)] at hy1
  have h1 := Nat.mul_le_mul_left (b ^ n) (show t + 1 ≤ ov from ho)
  rw [Nat.mul_add] at h1
  have hlt : val b (rs.drop j) < d * val b bs := by omega
  have hpos : 0 < d := by
    rcases Nat.eq_zero_or_pos d with h0 | h0
    · subst h0; simp at hlt
    · exact h0
  obtain ⟨q, rfl⟩ : ∃ q, d = q + 1 := ⟨d - 1, by omega⟩
  rw [Nat.add_mul, Nat.one_mul] at hd hlt e
  obtain ⟨r, hr⟩ : ∃ r, val b (rs.drop j) = q * val b bs + r := ⟨val b (rs.drop j) - q * val b bs, by omega⟩
  have hrl : r < val b bs := by omega
  have key : val b (seg ys j n) + b ^ n * (c + t) = r + b ^ n * ov := by rw [Nat.mul_add]; omega
  obtain ⟨k1, _⟩ := same_rest hy1 (by omega) key
  refine ⟨hpos, h.close hb hbl hn ht hj (ha.len.trans hs.len) ha.low (fun i hi => (ha.far i hi).trans (hs.far i hi)) (by rw [hr, k1]; rfl) (by omega) (by omega)⟩

/-- The estimate by the first words. -/
theorem LongSt.est {b : Nat} {us bs rs qs : List Nat} {j n t r1 r0 b1 b0 d : Nat} (h : LongSt b us bs (j + 1) rs qs) (hbl : Low b bs) (hn : bs.length = n + 2) (ht : rs[j + (n + 2)]? = some t) (hj : j < qs.length)
    (h1 : rs[j + n + 1]? = some r1) (h0 : rs[j + n]? = some r0) (hb1 : bs[n + 1]? = some b1) (hb0 : bs[n]? = some b0) (hh : b ≤ 2 * b1) (hbb : b ≤ b1 * b + b0 + 1) (hd : d < b)
    (hd1 : b1 ≤ t → d = b - 1) (hd2 : t < b1 → IsDig (b1 * b + b0) ((t * b + r1) * b + r0) d) :
    val b (rs.drop j) < d * val b bs + val b bs ∧ d * val b bs ≤ val b (rs.drop j) + val b bs := by
  obtain ⟨p1, _, p3⟩ := h.part hbl hn ht hj
  have hl := h.rlen
  have hql := h.qlen
  have e1 : val b (seg rs j (n + 2)) = val b (seg rs j n) + b ^ n * r0 + b ^ (n + 1) * r1 := by
    rw [val_seg_succ b (k := n + 1) (by rw [← Nat.add_assoc]; exact h1), val_seg_succ b h0]
  have e2 : val b bs = val b (bs.take n) + b ^ n * b0 + b ^ (n + 1) * b1 := by
    have := val_take_succ b bs (n + 1) (by omega)
    rw [List.take_of_length_le (by omega), val_take_succ b bs n (by omega), (List.getElem?_eq_some_iff.1 hb1).2, (List.getElem?_eq_some_iff.1 hb0).2] at this
    exact this
  have s1 := val_lt b _ (seg_low h.rlow j n)
  rw [seg_len (by omega)] at s1
  have s2 := val_lt b _ (hbl.take n)
  rw [List.length_take, Nat.min_eq_left (by omega)] at s2
  have hE : 0 < b ^ n := Nat.pow_pos (by omega)
  have hA : val b (rs.drop j) = ((t * b + r1) * b + r0) * b ^ n + val b (seg rs j n) := by
    rw [p1, e1]; grind
  have hB : val b bs = (b1 * b + b0) * b ^ n + val b (bs.take n) := by
    rw [e2]; grind
  have hpos : 0 < val b bs := by
    rcases Nat.eq_zero_or_pos (val b bs) with h2 | h2
    · rw [h2] at p3; simp at p3
    · exact h2
  have q1 := Nat.div_mul_le_self (val b (rs.drop j)) (val b bs)
  have q2 := Nat.lt_div_mul_add (a := val b (rs.drop j)) hpos
  have q3 : val b (rs.drop j) / val b bs < b := Nat.div_lt_of_lt_mul (by rw [Nat.mul_comm]; exact p3)
  generalize val b (rs.drop j) / val b bs = q at *
  have hqd : q ≤ d ∧ d ≤ q + 1 := by
    rcases Nat.lt_or_ge t b1 with h2 | h2
    · obtain ⟨k1, k2⟩ := hd2 h2
      exact ⟨est_le hA hB s1 q1 (by rw [Nat.add_mul d 1, Nat.one_mul]; exact k2), est_ge hA hB s2 q2 k1 (by omega)⟩
    · rw [hd1 h2]
      refine est_top (b1 := b1) (E := b ^ (n + 1)) ?_ ?_ hh q2 q3
      · rw [p1]
        have : b ^ (n + 2) * b1 ≤ b ^ (n + 2) * t := Nat.mul_le_mul_left _ h2
        have e : b1 * b * b ^ (n + 1) = b ^ (n + 2) * b1 := by grind
        omega
      · rw [e2, Nat.add_mul, Nat.one_mul, Nat.mul_comm b1]
        have hb0l := hbl b0 (List.mem_of_getElem? hb0)
        have : b ^ n * (b0 + 1) ≤ b ^ n * b := Nat.mul_le_mul_left _ hb0l
        rw [Nat.mul_add] at this
        rw [Nat.pow_succ] at *
        omega
  have m1 := Nat.mul_le_mul_right (val b bs) hqd.1
  have m2 := Nat.mul_le_mul_right (val b bs) hqd.2
  rw [Nat.add_mul] at m2
  omega
theorem LongSt.fin {b : Nat} {us bs rs qs : List Nat} (h : LongSt b us bs 0 rs qs) : val b qs = val b us / val b bs ∧ val b rs = val b us % val b bs := by
  have e := h.eq
  have t := h.top
  rw [List.drop_zero] at t
  have hp : 0 < val b bs := by omega
  rw [e, Nat.mul_comm, Nat.mul_add_div hp, Nat.div_eq_of_lt t, Nat.mul_add_mod, Nat.mod_eq_of_lt t]
  simp
end Go.Proofs.Num

namespace Go.Proofs.Ythgekjkgfccnaaa
open Go.RowKit Num

def estD (a2 a1 a0 b1 b0 : Nat) : Nat := if b1 ≤ a2 then B64 - 1 else ((a2 * B64 + a1) * B64 + a0) / (b1 * B64 + b0)
theorem estimate_fix (a2 a1 a0 b1 b0 : Nat) (h1 : a1 < B64) (h0 : a0 < B64) (hb1 : b1 < B64) (hb0 : b0 < B64) (hn : B64 ≤ 2 * b1) (w : World) :
    Calls Try.prog 104 #[.int .u64 (a2 : Int), .int .u64 (a1 : Int), .int .u64 (a0 : Int), .int .u64 (b1 : Int), .int .u64 (b0 : Int)] w fun e w' => e = .returned (.int .u64 ((estD a2 a1 a0 b1 b0 : Nat) : Int)) ∧ ∃ m, w' = w.drewN m := by
  refine (estimate_any a2 a1 a0 b1 b0 h1 h0 hb1 hb0 hn w).mono fun e w' ⟨d, he, hd, t1, t2, hm⟩ => ⟨?_, hm⟩
  rw [he]
  congr 3
  unfold estD
  split
  · rename_i h; exact t1 h
  · rename_i h; exact ((t2 (by omega)).div.1).symm
theorem estD_ok {a2 a1 a0 b1 b0 : Nat} (h1 : a1 < B64) (h0 : a0 < B64) (hn : B64 ≤ 2 * b1) :
    estD a2 a1 a0 b1 b0 < B64 ∧ (b1 ≤ a2 → estD a2 a1 a0 b1 b0 = B64 - 1) ∧ (a2 < b1 → IsDig (b1 * B64 + b0) ((a2 * B64 + a1) * B64 + a0) (estD a2 a1 a0 b1 b0)) := by
  have hp : 0 < b1 * B64 + b0 := by
    have : 0 < b1 * B64 := Nat.mul_pos (by unfold B64 at hn; omega) b64_pos
    omega
  refine ⟨?_, fun h => by unfold estD; rw [if_pos h], fun h => ?_⟩
  · unfold estD
    split
    · unfold B64; omega
    · rename_i h
      refine Nat.div_lt_of_lt_mul ?_
      have h2 := Nat.mul_le_mul_right B64 (show a2 + 1 ≤ b1 by omega)
      rw [Nat.add_mul] at h2
      have h3 := Nat.mul_le_mul_right B64 (show a2 * B64 + a1 + 1 ≤ b1 * B64 by omega)
      rw [Nat.add_mul] at h3
      have h4 : b1 * B64 * B64 ≤ (b1 * B64 + b0) * B64 := Nat.mul_le_mul_right _ (Nat.le_add_right _ _)
      omega
  · unfold estD
    rw [if_neg (by omega)]
    exact ⟨Nat.div_mul_le_self _ _, Nat.lt_div_mul_add hp⟩

theorem lay_end (K : Nat) (us : List Nat) (h : K = us.length + 1) : lay (List.replicate K 0) 0 us = us ++ [0] := by
  subst h
  unfold lay
  simp

theorem subSc_pos {b : Nat} {zs bs zs' : List Nat} {d j n ov : Nat} (h : Num.SubScSt b zs bs d j n zs' ov) (hj : j + n ≤ zs.length) (ho : 0 < ov) : 0 < d := by
  rcases Nat.eq_zero_or_pos d with h0 | h0
  · exfalso
    subst h0
    have e := h.eq
    have h1 := val_lt b _ (seg_low h.low j n)
    rw [seg_len (by rw [h.len]; exact hj)] at h1
    have h2 : b ^ n * 1 ≤ b ^ n * ov := Nat.mul_le_mul_left _ ho
    omega
  · exact h0
/-- Quotient and remainder, both of the call's own. -/
def DivPost (w : World) (q r : Nat) (e : Ending) (w' : World) : Prop := ∃ v u, e = .returned (.tuple #[v, u]) ∧ W64 w' v q ∧ W64 w' u r ∧ Below w.heap.size w w'

set_option maxHeartbeats 4000000 in
set_option maxRecDepth 100000 in
theorem longDivide_any (A A' : Option Addr) (c c' L n : Nat) (us bs : List Nat) (w : World) (hA : Nums .u64 w A us) (hB : Nums .u64 w A' bs) (hu : Low B64 us) (hb : Low B64 bs) (hnb : Neat bs)
    (hL : L = us.length) (hn : n = bs.length) (h2 : 2 ≤ n) (hle : n ≤ L) (hbig : L ≤ 100000000000) (hh : ∀ t, bs[n - 1]? = some t → B64 ≤ 2 * t) :
    Calls Try.prog 92 #[.slice A L c, .slice A' n c'] w (DivPost w (val B64 us / val B64 bs) (val B64 us % val B64 bs)) := by
  obtain ⟨K, hK⟩ : ∃ K, K + n = L + 1 := ⟨L + 1 - n, by omega⟩
  have hne : 0 < bs.length → ∀ a, A' = some a → a.block ≠ w.heap.size := nums_ne hB (Nat.le_refl _)
  have HNE := Lib.hid hne
  clear hne
  have hmk := make64 (L + 1) (by omega) w
  push_cast at hmk
  have hr0 := Row.made w .u64 (L + 1) 55
  have hbA : Below w.heap.size w (w.alloc (.cells (madeCells #[.int .u64 0] (L + 1)) 55)) := (Below.refl _ _).alloc (Nat.le_refl _) _
  have hA0 := hA.keep hbA
  have eK : (L : Int) - (n : Int) + 1 = (K : Int) := by omega
  have hmk2 := fun w => make64 K (by omega) w
  have hst0 := LongSt.start b64_two (K := K) hu hnb (by omega) (by omega)
  have HL := Lib.hid hL
  have HN := Lib.hid hn
  have HR0 := Lib.hid hr0
  have HS0 := Lib.hid hst0
  have HK := Lib.hid hK
  clear hL hn hr0 hst0 hA hK
  go_enter Try.func92, Try.ntmps92
  go_wp2_with (first
    | (refine wpList_copy_row rfl (.tmp 17) (.tmp 18) rfl _ _ _ _ _ _ rfl rfl _ 0 _ _ HR0.out hA0 HL.out (by omega) (fun _ => rfl) (by simp) ?_
       intro w1 hr1 hg1
       have hb1 : Below w.heap.size w w1 := hbA.grown hg1 hbA.size (fun k hk => by injection hk with hk; omega)))
  have hr2 := Row.made w1 .u64 K 55
  have hbB : Below w.heap.size w (w1.alloc (.cells (madeCells #[.int .u64 0] K) 55)) := hb1.alloc hb1.size _
  have hr1' := hr1.alloc (.cells (madeCells #[.int .u64 0] K) 55)
  rw [lay_end _ _ (by have := HL.out; omega)] at hr1'
  have hlt1 := hr1.lt
  obtain ⟨G, hG⟩ : ∃ G, w1.heap.size = G := ⟨_, rfl⟩
  rw [hG] at hr2 hlt1 ⊢
  have HG := Lib.hid hG
  have R1 := Lib.hid hr1'
  have R2 := Lib.hid hr2
  clear hr1' hr2 hr1 hG hA0 hmk hbA hg1
  go_loopw [7] (fun t wr => ∃ (k : Nat) (rs qs : List Nat), k ≤ K ∧ t = .int .i64 ((k : Int) - 1) ∧ LongSt B64 us bs k rs qs ∧ Row .u64 55 wr w.heap.size rs ∧ Row .u64 55 wr G qs ∧ Below w.heap.size w wr) (fun t _ => (intOf t + 1).toNat)
  case atStart => exact ⟨K, _, _, Nat.le_refl _, by congr 1; omega, HS0.out, R1.out, R2.out, hbB⟩
  case round =>
    clear R1 R2 hbB HS0 hb1 HG
    obtain ⟨k, rs, qs, hk, rfl, hst, hrow, hrow2, hbl⟩ := hrel
    have hrl := hst.rlen
    have hql := hst.qlen
    by_cases h0 : k = 0
    · subst h0
      obtain ⟨f1, f2⟩ := hst.fin
      have hq0 := hrow2.nums0 qs.length
      rw [List.take_length] at hq0
      have hqK : K = qs.length := by have := HN.out; have := HL.out; have := HK.out; omega
      have hr0 := hrow.nums0 n
      have hv0 : val B64 (rs.take n) = val B64 rs := by
        have e1 := val_take_drop B64 rs n (by have := HL.out; omega)
        have e2 := hst.top
        rw [List.drop_zero] at e2
        have e3 := val_lt B64 bs hb
        rw [← HN.out] at e3
        rcases Nat.eq_zero_or_pos (val B64 (rs.drop n)) with h0 | h0
        · rw [h0] at e1; omega
        · have := Nat.mul_le_mul_left (B64 ^ n) (show 1 ≤ val B64 (rs.drop n) from h0); omega
      have hnl : n = (rs.take n).length := by rw [List.length_take]; have := HL.out; omega
      have ht1 : ∀ (m : Nat), Calls Try.prog 69 #[.slice (some ⟨G, 0, none⟩) K K] (wr.drewN m) fun e w'' => e = .returned (.slice (some ⟨G, 0, none⟩) (dig B64 (val B64 qs)).length K) ∧ ∃ m', w'' = wr.drewN m' := fun m =>
        (trim_any _ K K qs (wr.drewN m) (hq0.keep (below_drewN (Below.refl _ _) _)) hst.qlow hqK (Nat.le_refl _) (by omega)).mono fun e w' ⟨he, hm⟩ => ⟨he, m, hm.symm⟩
      have ht2 : ∀ (m : Nat), Calls Try.prog 69 #[.slice (some ⟨w.heap.size, 0, none⟩) n (L + 1)] (wr.drewN m) fun e w'' => e = .returned (.slice (some ⟨w.heap.size, 0, none⟩) (dig B64 (val B64 (rs.take n))).length (L + 1)) ∧ ∃ m', w'' = wr.drewN m' := fun m =>
        (trim_any _ (L + 1) n (rs.take n) (wr.drewN m) (hr0.keep (below_drewN (Below.refl _ _) _)) (hst.rlow.take n) hnl (by omega) (by omega)).mono fun e w' ⟨he, hm⟩ => ⟨he, m, hm.symm⟩
      rw [hv0, f2] at ht2
      rw [f1] at ht1
      have k1 : ∀ m, W64 (wr.drewN m) (.slice (some ⟨G, 0, none⟩) (dig B64 (val B64 us / val B64 bs)).length K) (val B64 us / val B64 bs) := fun m => by
        refine ⟨_, _, rfl, ?_, ?_⟩
        · rw [← f1, hqK]; exact trim_le b64_two hst.qlow
        · have := (hq0.take (dig B64 (val B64 qs)).length).keep (below_drewN (Below.refl _ wr) m)
          rw [trim_take b64_two hst.qlow, f1] at this
          exact this
      have k2 : ∀ m, W64 (wr.drewN m) (.slice (some ⟨w.heap.size, 0, none⟩) (dig B64 (val B64 us % val B64 bs)).length (L + 1)) (val B64 us % val B64 bs) := fun m => by
        refine ⟨_, _, rfl, ?_, ?_⟩
        · rw [← f2]; exact Nat.le_trans (trim_le b64_two hst.rlow) (by have := HL.out; omega)
        · have := (hr0.take (dig B64 (val B64 (rs.take n))).length).keep (below_drewN (Below.refl _ wr) m)
          rw [trim_take b64_two (hst.rlow.take n), hv0, f2] at this
          exact this
      generalize val B64 us / val B64 bs = Q at *
      generalize val B64 us % val B64 bs = R at *
      have HT1 := Lib.hid ht1
      have HT2 := Lib.hid ht2
      have K1 := Lib.hid k1
      have K2 := Lib.hid k2
      clear ht1 ht2 k1 k2 f1 f2 hv0 hnl hqK hq0 hr0 hst hrl hql hh hB
      go_wp2_with (fail)
      go_quiet (first | (go_at_call 69; with_reducible exact HT1.out _) | (go_at_call 69; with_reducible exact HT2.out _))
      go_wp2
      go_ret2
      exact ⟨_, _, rfl, K1.out _, K2.out _, below_drewN hbl _⟩
    · obtain ⟨j, rfl⟩ : ∃ j, k = j + 1 := ⟨k - 1, by omega⟩
      have hB1 := hB.keep hbl
      obtain ⟨gb, ob, b1, rfl, hgb, hb1, hcb1⟩ := hB1.at_ (i := n - 1) (by have := HN.out; omega)
      obtain ⟨gb', ob', b0, e0, hgb', hb0, hcb0⟩ := hB1.at_ (i := n - 2) (by have := HN.out; omega)
      injection e0 with e0
      injection e0 with e0 e0'
      subst e0 e0'
      have hjn : j + n < rs.length := by have := HL.out; have := HK.out; omega
      obtain ⟨t, ht⟩ : ∃ t, rs[j + n]? = some t := ⟨rs[j + n], List.getElem?_eq_getElem _⟩
      obtain ⟨r1, hr1⟩ : ∃ t, rs[j + n - 1]? = some t := ⟨rs[j + n - 1], List.getElem?_eq_getElem _⟩
      obtain ⟨r0, hr0⟩ : ∃ t, rs[j + n - 2]? = some t := ⟨rs[j + n - 2], List.getElem?_eq_getElem _⟩
      have ct := hrow.cell ht
      have c1 := hrow.cell hr1
      have c0 := hrow.cell hr0
      have lt1 : r1 < B64 := hst.rlow r1 (List.mem_of_getElem? hr1)
      have lt0 : r0 < B64 := hst.rlow r0 (List.mem_of_getElem? hr0)
      have lb1 : b1 < B64 := hb b1 (List.mem_of_getElem? hb1)
      have lb0 : b0 < B64 := hb b0 (List.mem_of_getElem? hb0)
      have hnorm := hh b1 hb1
      have hest : ∀ (w : World) (m : Nat), Calls Try.prog 104 #[.int .u64 (t : Int), .int .u64 (r1 : Int), .int .u64 (r0 : Int), .int .u64 (b1 : Int), .int .u64 (b0 : Int)] (w.drewN m) fun e w'' => e = .returned (.int .u64 ((estD t r1 r0 b1 b0 : Nat) : Int)) ∧ ∃ m', w'' = w.drewN m' := fun w m =>
        (estimate_fix t r1 r0 b1 b0 lt1 lt0 lb1 lb0 hnorm (w.drewN m)).mono fun e w' ⟨he, m', hm⟩ => ⟨he, m + m', by rw [hm, World.drewN_drewN]⟩
      obtain ⟨d1, d2, d3⟩ := estD_ok (a2 := t) (a0 := r0) (b0 := b0) lt1 lt0 hnorm
      generalize estD t r1 r0 b1 b0 = d at *
      have x1 : ((j : Int) + (n : Int) - 1).toNat = j + n - 1 := by omega
      have x2 : ((j : Int) + (n : Int) - 2).toNat = j + n - 2 := by omega
      have x3 : ((n : Int) - 1).toNat = n - 1 := by omega
      have x4 : ((n : Int) - 2).toNat = n - 2 := by omega
      have hjL : j + n ≤ L := by have := HL.out; omega
      have y1 : (j : Int) ≤ (L : Int) + 1 := by omega
      have y2 : ¬ L + 1 = j := by omega
      have HEST := Lib.hid hest
      have HT := Lib.hid ht
      have HR1 := Lib.hid hr1
      have HR0' := Lib.hid hr0
      have HB1 := Lib.hid hb1
      have HB0 := Lib.hid hb0
      have HD2 := Lib.hid d2
      have HD3 := Lib.hid d3
      have HST := Lib.hid hst
      have HQL := Lib.hid hql
      have HRL := Lib.hid hrl
      have hB2 : Nums .u64 wr (some ⟨gb, ob, none⟩) bs := hB1
      clear hest ht hr1 hr0 hb1 hb0 d2 d3 hst hB1 hB hh hql hrl
      go_wp2_with (fail)
      go_quiet ((go_at_call 104; exact HEST.out _ _))
      go_wp2_with (fail)
      refine (subScaled_any w.heap.size j _ _ c' n d rs bs _ _ (Row.of_block hrow (by rfl)) HST.out.rlow (hB2.keep (below_drewN (Below.refl _ _) _)) hb HNE.out HN.out (by have := HRL.out; omega) d1 (by omega) (by omega) (by omega)).mono ?_
      rintro e w2 ⟨zs1, ov, rfl, hs1, hrz, hgz⟩
      rw [← HN.out] at hs1
      have hB3 := (hB2.keep (below_drewN (Below.refl _ _) _)).grown HNE.out hgz
      have hrg1 : Row .u64 55 w2 G qs := Row.grown (Row.of_block hrow2 (by rfl)) hgz (by intro h; injection h with h; omega)
      have hb2 : Below w.heap.size w w2 := (below_drewN hbl _).grown hgz hbl.size (fun k hk => by injection hk with hk; omega)
      have hjq : j < qs.length := by have := HQL.out; have := HN.out; have := HL.out; have := HK.out; omega
      obtain ⟨es1, es2⟩ := HST.out.est (n := n - 2) (b1 := b1) (b0 := b0) (t := t) (r1 := r1) (r0 := r0) (d := d) hb (by have := HN.out; omega) (by rw [show j + (n - 2 + 2) = j + n by omega]; exact HT.out) hjq (by rw [show j + (n - 2) + 1 = j + n - 1 by omega]; exact HR1.out) (by rw [show j + (n - 2) = j + n - 2 by omega]; exact HR0'.out) (by rw [show n - 2 + 1 = n - 1 by omega]; exact HB1.out) HB0.out hnorm (by unfold B64 at *; omega) d1 HD2.out HD3.out
      have ES1 := Lib.hid es1
      have ES2 := Lib.hid es2
      clear es1 es2
      have hzl1 : zs1.length = rs.length := hs1.len
      obtain ⟨o1, hx1⟩ : ∃ o, zs1[j + n]? = some o := ⟨zs1[j + n]'(by omega), List.getElem?_eq_getElem _⟩
      have cz1 := hrz.cell hx1
      have fz1 := hrz.frozen (j + n)
      obtain ⟨oq, hq1⟩ : ∃ o, qs[j]? = some o := ⟨qs[j], List.getElem?_eq_getElem _⟩
      have hrq1 := hrg1.setOther (a := ⟨w.heap.size, j + n, none⟩) (by show G ≠ w.heap.size; omega) (.int .u64 0)
      have cq1 := hrq1.cell hq1
      have fq1 := hrq1.frozen j
      have HS1 := Lib.hid hs1
      have HX1 := Lib.hid hx1
      have HQ1 := Lib.hid hq1
      have HZL1 := Lib.hid hzl1
      clear hs1 hx1 hq1 hzl1
      by_cases hov : ov ≤ t
      · have hnew := HST.out.right b64_two hb HN.out.symm HT.out hjq HS1.out ES1.out d1 hov
        have HNEW := Lib.hid hnew
        clear hnew
        go_wp2
        go_roundw
        case rel => exact ⟨j, _, _, by omega, by first | rfl | go_num, HNEW.out, (hrz.set (j + n) 0).setOther (by show w.heap.size ≠ G; omega) _, hrq1.set j d, below_set (below_set hb2 (Nat.le_refl _) _) (by omega) _⟩
        case measure => simp [intOf]
      · have hov' : t < ov := by omega
        have hdp := subSc_pos HS1.out (by have := HN.out; have := HRL.out; omega) (by omega)
        obtain ⟨d', hd'⟩ : ∃ d', d - 1 = d' := ⟨_, rfl⟩
        have wd : IntKind.u64.wrap ((d : Int) - 1) = (d' : Int) := by unfold B64 at d1; rw [IntKind.wrap_u64]; omega
        have HD' := Lib.hid hd'
        clear hd'
        go_wp2_with (fail)
        refine (addTo_any w.heap.size j _ _ c' n zs1 bs _ _ hrz HS1.out.low (by have := HZL1.out; omega) hB3 hb HNE.out HN.out (by omega) (by omega)).mono ?_
        rintro e w3 ⟨ys, cy, rfl, ha1, hry, hgy⟩
        have hb3 : Below w.heap.size w w3 := hb2.grown hgy hb2.size (fun k hk => by injection hk with hk; omega)
        have hrg2 := hrg1.grown hgy (by intro h; injection h with h; omega)
        obtain ⟨_, hnew⟩ := HST.out.less b64_two hb HN.out.symm HT.out hjq HS1.out ha1 ES2.out d1 hov'
        rw [HD'.out] at hnew
        have hzl2 := ha1.len
        obtain ⟨o2, hx2⟩ : ∃ o, ys[j + n]? = some o := ⟨ys[j + n]'(by have := HZL1.out; omega), List.getElem?_eq_getElem _⟩
        have cz2 := hry.cell hx2
        have fz2 := hry.frozen (j + n)
        have hrq2 := hrg2.setOther (a := ⟨w.heap.size, j + n, none⟩) (by show G ≠ w.heap.size; omega) (.int .u64 0)
        have cq2 := hrq2.cell HQ1.out
        have fq2 := hrq2.frozen j
        have HNEW := Lib.hid hnew
        have HA1 := Lib.hid ha1
        have HX2 := Lib.hid hx2
        have HZL2 := Lib.hid hzl2
        clear hnew ha1 hx2 hzl2
        go_wp2
        go_roundw
        case rel => exact ⟨j, _, _, by omega, by first | rfl | go_num, HNEW.out, (hry.set (j + n) 0).setOther (by show w.heap.size ≠ G; omega) _, hrq2.set j d', below_set (below_set hb3 (Nat.le_refl _) _) (by omega) _⟩
        case measure => simp [intOf]
end Go.Proofs.Ythgekjkgfccnaaa

namespace Go.Proofs.Ythgekjkgfccnaaa
open Go.RowKit Num

/-- Division by a word from the top down: the words from k on are done. -/
structure WordSt (xs zs : List Nat) (v k l : Nat) : Prop where
  len : zs.length = xs.length
  low : Low B64 zs
  lt : l < v
  eq : val B64 (xs.drop k) = v * val B64 (zs.drop k) + l
theorem WordSt.start (xs : List Nat) {v : Nat} (hv : 0 < v) : WordSt xs (List.replicate xs.length 0) v xs.length 0 :=
  ⟨by simp, Low.replicate b64_pos _, hv, by simp [val]⟩
theorem WordSt.step {xs zs : List Nat} {v k l x q r : Nat} (h : WordSt xs zs v (k + 1) l) (hx : xs[k]? = some x) (hs : l * B64 + x = v * q + r) (hq : q < B64) (hr : r < v) : WordSt xs (zs.set k q) v k r := by
  have hk : k < xs.length := (List.getElem?_eq_some_iff.1 hx).1
  have hxe : xs[k] = x := (List.getElem?_eq_some_iff.1 hx).2
  have hkz : k < (zs.set k q).length := by rw [List.length_set, h.len]; exact hk
  refine ⟨by rw [List.length_set]; exact h.len, h.low.set hq, hr, ?_⟩
  rw [List.drop_eq_getElem_cons hk, List.drop_eq_getElem_cons hkz, hxe, List.getElem_set_self, List.drop_set_of_lt (by omega)]
  simp only [val]
  rw [h.eq]
  grind
theorem WordSt.fin {xs zs : List Nat} {v l : Nat} (h : WordSt xs zs v 0 l) : val B64 zs = val B64 xs / v ∧ val B64 xs % v = l := by
  have e := h.eq
  simp only [List.drop_zero] at e
  have hl := h.lt
  rw [e, Nat.mul_add_div (by omega), Nat.div_eq_of_lt hl, Nat.mul_add_mod, Nat.mod_eq_of_lt hl]
  simp

def DivWPost (w : World) (q r : Nat) (e : Ending) (w' : World) : Prop := ∃ v, e = .returned (.tuple #[v, .int .u64 (r : Int)]) ∧ OwnW w.heap.size w' v q ∧ Below w.heap.size w w'

set_option maxHeartbeats 2000000 in
set_option maxRecDepth 100000 in
theorem divideWord_any (A : Option Addr) (c L d : Nat) (xs : List Nat) (w : World) (hA : Nums .u64 w A xs) (hx : Low B64 xs) (hL : L = xs.length) (hl : L ≤ 100000000000) (hd0 : 0 < d) (hd : d < B64) :
    Calls Try.prog 68 #[.slice A L c, .int .u64 (d : Int)] w (DivWPost w (val B64 xs / d) (val B64 xs % d)) := by
  have hmk := make64 L (by omega) w
  have hr0 := Row.made w .u64 L 55
  have hbA : Below w.heap.size w (w.alloc (.cells (madeCells #[.int .u64 0] L) 55)) := (Below.refl _ _).alloc (Nat.le_refl _) _
  have hst0 := WordSt.start xs hd0
  rw [← hL] at hst0
  have HL := Lib.hid hL
  have HR0 := Lib.hid hr0
  clear hL hr0
  go_enter Try.func68, Try.ntmps68
  go_wp2
  go_loopw [5, 6] (fun q t wr => ∃ (k l : Nat) (zs : List Nat), k ≤ L ∧ t = .int .i64 ((k : Int) - 1) ∧ q = .int .u64 (l : Int) ∧ WordSt xs zs d k l ∧ Row .u64 55 wr w.heap.size zs ∧ Below w.heap.size w wr) (fun _ t _ => (intOf t + 1).toNat)
  case atStart => exact ⟨L, 0, _, Nat.le_refl _, rfl, rfl, hst0, HR0.out, hbA⟩
  case round =>
    clear hst0 HR0 hbA hmk
    obtain ⟨k, l, zs, hk, rfl, rfl, hst, hrow, hbl⟩ := hrel
    have hlen := hst.len
    rw [← HL.out] at hlen
    have HLEN := Lib.hid hlen
    clear hlen
    by_cases h0 : k = 0
    · subst h0
      obtain ⟨f1, f2⟩ := hst.fin
      have hn := hrow.nums0 zs.length
      rw [List.take_length] at hn
      have own := own_of_trim b64_two hrow hst.low (Nat.le_refl w.heap.size)
      rw [f1, HLEN.out] at own
      have htr := trim_any _ L L zs _ hn hst.low HLEN.out.symm (Nat.le_refl _) (by omega)
      rw [f1] at htr
      have HT := Lib.hid htr
      have F2 := Lib.hid f2
      clear htr f1 f2 hn hst hx hA
      go_wp2_with (go_at_call 69; refine HT.out.mono ?_; rintro e w9 ⟨rfl, rfl⟩)
      go_ret2
      rw [F2.out]
      exact ⟨_, rfl, own, hbl⟩
    · obtain ⟨j, rfl⟩ : ∃ j, k = j + 1 := ⟨k - 1, by omega⟩
      obtain ⟨g, off, x, rfl, hg, hxv, hcx⟩ := (hA.keep hbl).at_ (i := j) (by have := HL.out; omega)
      have hxl : x < B64 := hx x (List.mem_of_getElem? hxv)
      have hdv := fun w => div64_any l x d hst.lt hxl hd w
      have hs := Nat.div_add_mod (l * B64 + x) d
      have hr := Nat.mod_lt (l * B64 + x) hd0
      have hq : (l * B64 + x) / d < B64 := by
        refine Nat.div_lt_of_lt_mul ?_
        have := Nat.mul_le_mul_right B64 (show l + 1 ≤ d from hst.lt)
        rw [Nat.add_mul] at this; omega
      generalize (l * B64 + x) / d = q at *
      generalize (l * B64 + x) % d = r at *
      have hst' := hst.step hxv hs.symm hq hr
      obtain ⟨o, ho⟩ : ∃ o, zs[j]? = some o := ⟨zs[j]'(by have := HLEN.out; omega), List.getElem?_eq_getElem _⟩
      have hco := hrow.cell ho
      have hfo := hrow.frozen j
      have HST := Lib.hid hst'
      have HX := Lib.hid hxv
      have HO := Lib.hid ho
      have HDV := Lib.hid hdv
      clear hst' hxv ho hxl hs hq hr hst hA hx hdv
      go_wp2_with (go_at_call 90; refine (HDV.out _).mono ?_; rintro e w1 ⟨rfl, m, rfl⟩)
      go_roundw
      case rel => exact ⟨j, r, _, by omega, by first | rfl | go_num, rfl, HST.out, Row.set (Row.of_block hrow (by rfl)) j q, below_set (below_drewN hbl _) (Nat.le_refl _) _⟩
      case measure => simp [intOf]
theorem divideWord_call (a : Value) (m d : Nat) (w : World) (ha : W64 w a m) (hl : (dig B64 m).length ≤ 100000000000) (hd0 : 0 < d) (hd : d < B64) : Calls Try.prog 68 #[a, .int .u64 (d : Int)] w (DivWPost w (m / d) (m % d)) := by
  obtain ⟨A, c, rfl, _, hA⟩ := ha
  have := divideWord_any A c _ d _ w hA (low_dig b64_two m) rfl hl hd0 hd
  rw [val_dig b64_two] at this
  exact this

/-- A divisor whose highest bit is set. -/
def Normal (n : Nat) : Prop := ∃ k, 2 ≤ k ∧ B64 ^ k ≤ 2 * n ∧ n < B64 ^ k
theorem Normal.len {n : Nat} (h : Normal n) : 2 ≤ (dig B64 n).length ∧ B64 ^ (dig B64 n).length ≤ 2 * n ∧ ∀ t, (dig B64 n)[(dig B64 n).length - 1]? = some t → B64 ≤ 2 * t := by
  obtain ⟨k, h2, h1, h3⟩ := h
  have hle := dig_len_le b64_two h3
  have hge : k ≤ (dig B64 n).length := by
    rcases Nat.lt_or_ge (dig B64 n).length k with h4 | h4
    · exfalso
      have h5 := dig_len_lt b64_two (n := n)
      have h6 := Nat.pow_le_pow_right b64_pos (show (dig B64 n).length + 1 ≤ k from h4)
      rw [Nat.pow_succ] at h6
      have h7 : B64 ^ (dig B64 n).length * 2 ≤ B64 ^ (dig B64 n).length * B64 := Nat.mul_le_mul_left _ b64_two
      omega
    · exact h4
  have hk : (dig B64 n).length = k := by omega
  refine ⟨by omega, by rw [hk]; exact h1, fun t ht => ?_⟩
  rw [hk] at ht
  have e := dig_getElem? b64_two ht
  have hd : n / B64 ^ (k - 1) < B64 := by
    refine Nat.div_lt_of_lt_mul ?_
    have : B64 ^ k = B64 ^ (k - 1) * B64 := by rw [← Nat.pow_succ]; congr 1; omega
    omega
  rw [Nat.mod_eq_of_lt hd] at e
  have hp : 0 < B64 ^ (k - 1) := Nat.pow_pos b64_pos
  have h8 := Nat.lt_div_mul_add (a := n) hp
  rw [← e] at h8
  have h9 : B64 ^ k = B64 * B64 ^ (k - 1) := by rw [Nat.mul_comm, ← Nat.pow_succ]; congr 1; omega
  rcases Nat.lt_or_ge (2 * t + 1) B64 with h10 | h10
  · exfalso
    have h11 : (2 * t + 2) * B64 ^ (k - 1) ≤ B64 * B64 ^ (k - 1) := Nat.mul_le_mul_right _ h10
    have h12 : (2 * t + 2) * B64 ^ (k - 1) = 2 * (t * B64 ^ (k - 1) + B64 ^ (k - 1)) := by grind
    omega
  · unfold B64 at *; omega

theorem lenm {m n : Nat} (h : n ≤ m) : (dig B64 n).length ≤ (dig B64 m).length := dig_len_mono h

set_option maxHeartbeats 2000000 in
set_option maxRecDepth 100000 in
theorem divideNormal_lt (a b : Value) (m n : Nat) (w : World) (ha : W64 w a m) (hb : W64 w b n) (hn : (dig B64 n).length ≤ 100000000) (hm : (dig B64 m).length ≤ 100000000) (hlt : m < n) :
    Calls Try.prog 71 #[a, b] w (DivPost w (m / n) (m % n)) := by
  have hcmp := cmp64_call a b m n w ha hb (by omega) (by omega)
  rw [cmpN_lt hlt] at hcmp
  rw [Nat.div_eq_of_lt hlt, Nat.mod_eq_of_lt hlt]
  have HC := Lib.hid hcmp
  have HA := Lib.hid ha
  obtain ⟨A, c, rfl, _⟩ := ha
  obtain ⟨A', c', rfl, _⟩ := hb
  clear hcmp hlt
  generalize (dig B64 m).length = L at *
  generalize (dig B64 n).length = L' at *
  go_enter Try.func71, Try.ntmps71
  go_wp2_with (fail)
  refine HC.out.mono ?_
  rintro e w1 ⟨rfl, hb1⟩
  go_wp2
  go_ret2
  exact ⟨_, _, rfl, w64_nil _, HA.out.keep hb1, hb1⟩

set_option maxHeartbeats 2000000 in
set_option maxRecDepth 100000 in
theorem divideNormal_s (a b : Value) (m n : Nat) (w : World) (ha : W64 w a m) (hb : W64 w b n) (hn : Normal n) (hm : (dig B64 m).length ≤ 100000000) (hle : n ≤ m) (hs : (dig B64 n).length < 200) :
    Calls Try.prog 71 #[a, b] w (DivPost w (m / n) (m % n)) := by
  have hll := lenm hle
  have hcmp := cmp64_call a b m n w ha hb (by omega) (by omega)
  have hc0 : 0 ≤ cmpN m n := by
    rcases Nat.lt_or_ge n m with h | h
    · rw [cmpN_gt h]; omega
    · obtain rfl : m = n := by omega
      rw [cmpN_eq]; omega
  generalize cmpN m n = cc at *
  obtain ⟨n1, n2, n3⟩ := hn.len
  have hld : ∀ w', Below w.heap.size w w' → Calls Try.prog 92 #[a, b] w' (DivPost w' (m / n) (m % n)) := fun w' h => by
    obtain ⟨A, c, rfl, _, hA⟩ := ha.keep h
    obtain ⟨A', c', rfl, _, hB⟩ := hb.keep h
    have := longDivide_any A A' c c' _ _ _ _ w' hA hB (low_dig b64_two m) (low_dig b64_two n) (neat_dig b64_two n) rfl rfl n1 hll (by omega) n3
    rw [val_dig b64_two, val_dig b64_two] at this
    exact this
  have HC := Lib.hid hcmp
  have HLD := Lib.hid hld
  obtain ⟨A, c, rfl, _⟩ := ha
  obtain ⟨A', c', rfl, _⟩ := hb
  clear hcmp hld n2 n3 hn hle
  generalize (dig B64 m).length = L at *
  generalize (dig B64 n).length = L' at *
  have hs' : L' < 200 := hs
  go_enter Try.func71, Try.ntmps71
  go_wp2_with (fail)
  refine HC.out.mono ?_
  rintro e w1 ⟨rfl, hb1⟩
  go_wp2_with (fail)
  refine (HLD.out _ hb1).mono ?_
  rintro e w2 ⟨v, u, rfl, hv, hu, hb2⟩
  go_wp2
  go_ret2
  exact ⟨_, _, rfl, hv, hu, below_at hb1 (Nat.le_refl _) hb2⟩

set_option maxHeartbeats 2000000 in
set_option maxRecDepth 100000 in
theorem divideNormal_l (a b : Value) (m n : Nat) (w : World) (ha : W64 w a m) (hb : W64 w b n) (hn : Normal n) (hm : (dig B64 m).length ≤ 100000000) (hle : n ≤ m) (hs0 : 200 ≤ (dig B64 n).length) (hs : (dig B64 m).length < 200 + (dig B64 n).length) :
    Calls Try.prog 71 #[a, b] w (DivPost w (m / n) (m % n)) := by
  have hll := lenm hle
  have hcmp := cmp64_call a b m n w ha hb (by omega) (by omega)
  have hc0 : 0 ≤ cmpN m n := by
    rcases Nat.lt_or_ge n m with h | h
    · rw [cmpN_gt h]; omega
    · obtain rfl : m = n := by omega
      rw [cmpN_eq]; omega
  generalize cmpN m n = cc at *
  obtain ⟨n1, n2, n3⟩ := hn.len
  have hld : ∀ w', Below w.heap.size w w' → Calls Try.prog 92 #[a, b] w' (DivPost w' (m / n) (m % n)) := fun w' h => by
    obtain ⟨A, c, rfl, _, hA⟩ := ha.keep h
    obtain ⟨A', c', rfl, _, hB⟩ := hb.keep h
    have := longDivide_any A A' c c' _ _ _ _ w' hA hB (low_dig b64_two m) (low_dig b64_two n) (neat_dig b64_two n) rfl rfl n1 hll (by omega) n3
    rw [val_dig b64_two, val_dig b64_two] at this
    exact this
  have HC := Lib.hid hcmp
  have HLD := Lib.hid hld
  obtain ⟨A, c, rfl, _⟩ := ha
  obtain ⟨A', c', rfl, _⟩ := hb
  clear hcmp hld n2 n3 hn hle
  generalize (dig B64 m).length = L at *
  generalize (dig B64 n).length = L' at *
  have hs' : L < 200 + L' := hs
  have hs1 : ¬ L' < 200 := by omega
  go_enter Try.func71, Try.ntmps71
  go_wp2_with (fail)
  refine HC.out.mono ?_
  rintro e w1 ⟨rfl, hb1⟩
  go_wp2_with (fail)
  refine (HLD.out _ hb1).mono ?_
  rintro e w2 ⟨v, u, rfl, hv, hu, hb2⟩
  go_wp2
  go_ret2
  exact ⟨_, _, rfl, hv, hu, below_at hb1 (Nat.le_refl _) hb2⟩

theorem divideNormal_any (a b : Value) (m n : Nat) (w : World) (ha : W64 w a m) (hb : W64 w b n) (hn : Normal n) (hnl : (dig B64 n).length ≤ 100000000) (hm : (dig B64 m).length ≤ 100000000) (hs : (dig B64 n).length < 200 ∨ (dig B64 m).length < 200 + (dig B64 n).length) :
    Calls Try.prog 71 #[a, b] w (DivPost w (m / n) (m % n)) := by
  rcases Nat.lt_or_ge m n with h | h
  · exact divideNormal_lt a b m n w ha hb hnl hm h
  · rcases Nat.lt_or_ge (dig B64 n).length 200 with h2 | h2
    · exact divideNormal_s a b m n w ha hb hn hm h h2
    · exact divideNormal_l a b m n w ha hb hn hm h h2 (by omega)

/-- The shift that makes a divisor normal. -/
theorem normal_shift {n v : Nat} (h2 : 2 ≤ (dig B64 n).length) (hv : (dig B64 n)[(dig B64 n).length - 1]? = some v) : Normal (n * 2 ^ (64 - nbits v)) ∧ (dig B64 (n * 2 ^ (64 - nbits v))).length ≤ (dig B64 n).length ∧ v < B64 ∧ v ≠ 0 := by
  obtain ⟨L, hL⟩ : ∃ L, (dig B64 n).length = L + 1 := ⟨(dig B64 n).length - 1, by omega⟩
  rw [hL, Nat.add_sub_cancel] at hv
  have hb := nbits_words hL hv
  have hvl : v < B64 := low_dig b64_two n v (List.mem_of_getElem? hv)
  have hv64 := nbits_64 hvl
  have hv0 : v ≠ 0 := fun h => by
    have := (neat_iff _).1 (neat_dig b64_two n) (by omega)
    simp only [hL, Nat.add_sub_cancel] at this
    rw [(List.getElem?_eq_some_iff.1 hv).2] at this
    exact this h
  have hn0 : n ≠ 0 := fun h => by rw [h, dig_zero] at hL; simp at hL
  have h1 := nbits_ge hn0
  have h3 := nbits_lt n
  have hp := nbits_ne hv0
  have e : B64 ^ (L + 1) = 2 ^ (64 * L + 64) := by rw [← pow_b64]; congr 1
  have k1 : B64 ^ (L + 1) ≤ 2 * (n * 2 ^ (64 - nbits v)) := by
    have := Nat.mul_le_mul_right (2 ^ (64 - nbits v)) h1
    rw [← Nat.pow_add, show nbits n - 1 + (64 - nbits v) = 64 * L + 63 by omega] at this
    rw [e, show 64 * L + 64 = 64 * L + 63 + 1 by omega, Nat.pow_succ]
    omega
  have k2 : n * 2 ^ (64 - nbits v) < B64 ^ (L + 1) := by
    have := Nat.mul_lt_mul_of_pos_right h3 (Nat.two_pow_pos (64 - nbits v))
    rw [← Nat.pow_add, show nbits n + (64 - nbits v) = 64 * L + 64 by omega] at this
    rw [e]; exact this
  exact ⟨⟨L + 1, by omega, k1, k2⟩, by rw [hL]; exact dig_len_le b64_two k2, hvl, hv0⟩
theorem shift_len {m s : Nat} (hs : s ≤ 64) : (dig B64 (m * 2 ^ s)).length ≤ (dig B64 m).length + 1 := by
  refine dig_len_le b64_two ?_
  rw [Nat.pow_succ]
  have h1 := dig_len_lt b64_two (n := m)
  have h2 : 2 ^ s ≤ B64 := by
    have := Nat.pow_le_pow_right (show 0 < 2 by omega) hs
    have e : B64 = 2 ^ 64 := by decide
    omega
  exact Nat.lt_of_lt_of_le (Nat.mul_lt_mul_of_pos_right h1 (Nat.two_pow_pos s)) (Nat.mul_le_mul_left _ h2)

set_option maxHeartbeats 2000000 in
set_option maxRecDepth 100000 in
theorem divide_lt (a b : Value) (m n : Nat) (w : World) (ha : W64 w a m) (hb : W64 w b n) (hn : (dig B64 n).length ≤ 100000000) (hm : (dig B64 m).length ≤ 100000000) (hlt : m < n) :
    Calls Try.prog 48 #[a, b] w (DivPost w (m / n) (m % n)) := by
  have hcmp := cmp64_call a b m n w ha hb (by omega) (by omega)
  rw [cmpN_lt hlt] at hcmp
  rw [Nat.div_eq_of_lt hlt, Nat.mod_eq_of_lt hlt]
  have HC := Lib.hid hcmp
  have HA := Lib.hid ha
  obtain ⟨A, c, rfl, _⟩ := ha
  obtain ⟨A', c', rfl, _⟩ := hb
  clear hcmp hlt
  generalize (dig B64 m).length = L at *
  generalize (dig B64 n).length = L' at *
  go_enter Try.func48, Try.ntmps48
  go_wp2_with (fail)
  refine HC.out.mono ?_
  rintro e w1 ⟨rfl, hb1⟩
  go_wp2
  go_ret2
  exact ⟨_, _, rfl, w64_nil _, HA.out.keep hb1, hb1⟩

set_option maxHeartbeats 2000000 in
set_option maxRecDepth 100000 in
theorem divide_one (a b : Value) (m n : Nat) (w : World) (ha : W64 w a m) (hb : W64 w b n) (hn : (dig B64 n).length = 1) (hm : (dig B64 m).length ≤ 100000000) (hle : n ≤ m) :
    Calls Try.prog 48 #[a, b] w (DivPost w (m / n) (m % n)) := by
  have hcmp := cmp64_call a b m n w ha hb (by omega) (by omega)
  have hc0 : 0 ≤ cmpN m n := by
    rcases Nat.lt_or_ge n m with h | h
    · rw [cmpN_gt h]; omega
    · obtain rfl : m = n := by omega
      rw [cmpN_eq]; omega
  generalize cmpN m n = cc at *
  have hnl := dig_len_lt b64_two (n := n)
  rw [hn, Nat.pow_one] at hnl
  have hn0 : 0 < n := by
    rcases Nat.eq_zero_or_pos n with h | h
    · rw [h, dig_zero] at hn; simp at hn
    · exact h
  have hdw := fun w' (h : W64 w' a m) => divideWord_call a m n w' h (by omega) hn0 hnl
  have hrem : m % n < B64 := Nat.lt_of_lt_of_le (Nat.mod_lt _ hn0) (Nat.le_of_lt hnl)
  have htr := fun w' => trim_any (some ⟨w'.heap.size, 0, none⟩) 1 1 [m % n] (w'.alloc (.cells #[.int .u64 ((m % n : Nat) : Int)] 55)) (Row.nums0 (row_one w' (m % n)) 1) (Low.cons hrem (Low.nil _)) rfl (Nat.le_refl _) (by omega)
  have hown := fun w' => (own_of_trim b64_two (row_one w' (m % n)) (Low.cons hrem (Low.nil _)) (Nat.le_refl w'.heap.size)).is
  have hv1 : val B64 [m % n] = m % n := by simp [val]
  have hl1 : ([m % n] : List Nat).length = 1 := rfl
  rw [hv1] at htr
  rw [hv1, hl1] at hown
  obtain ⟨A', c', rfl, hc', hB⟩ := hb
  obtain ⟨g, off, v, rfl, hg, hv, hcv⟩ := hB.at_ (i := 0) (by omega)
  have hvn : v = n := by
    have e := dig_getElem? b64_two hv
    rw [Nat.pow_zero, Nat.div_one, Nat.mod_eq_of_lt hnl] at e
    exact e
  subst hvn
  rw [Nat.add_zero] at hcv
  rw [hn] at hcmp hc' ⊢
  have HC := Lib.hid hcmp
  have HDW := Lib.hid hdw
  have HTR := Lib.hid htr
  have HOW := Lib.hid hown
  have HA := Lib.hid ha
  obtain ⟨A, c, rfl, _⟩ := ha
  clear hcmp hdw htr hown hB hv hnl hrem hn hle hv1 hl1
  generalize (dig B64 m).length = L at *
  generalize m % v = R at *
  generalize m / v = Q at *
  go_enter Try.func48, Try.ntmps48
  go_wp2_with (fail)
  refine HC.out.mono ?_
  rintro e w1 ⟨rfl, hb1⟩
  have hcv1 := (hb1.cell (p := ⟨g, off, none⟩) hg).trans hcv
  go_wp2_with (fail)
  refine (HDW.out _ (HA.out.keep hb1)).mono ?_
  rintro e w2 ⟨q, rfl, hq, hb2⟩
  go_wp2_with (fail)
  refine (HTR.out _).mono ?_
  rintro e w3 ⟨rfl, rfl⟩
  go_wp2
  go_ret2
  exact ⟨_, _, rfl, hq.is.keep (below_new _ _), HOW.out _, (below_at hb1 (Nat.le_refl _) hb2).alloc (below_at hb1 (Nat.le_refl _) hb2).size _⟩

set_option maxHeartbeats 2000000 in
set_option maxRecDepth 100000 in
theorem divide_long (a b : Value) (m n : Nat) (w : World) (ha : W64 w a m) (hb : W64 w b n) (hn : 2 ≤ (dig B64 n).length) (hm : (dig B64 m).length ≤ 10000000) (hle : n ≤ m) (hs : (dig B64 n).length < 200 ∨ (dig B64 m).length < 199 + (dig B64 n).length) :
    Calls Try.prog 48 #[a, b] w (DivPost w (m / n) (m % n)) := by
  have hll := lenm hle
  have hcmp := cmp64_call a b m n w ha hb (by omega) (by omega)
  have hc0 : 0 ≤ cmpN m n := by
    rcases Nat.lt_or_ge n m with h | h
    · rw [cmpN_gt h]; omega
    · obtain rfl : m = n := by omega
      rw [cmpN_eq]; omega
  generalize cmpN m n = cc at *
  obtain ⟨A', c', hbe, hc', hB⟩ := id hb
  obtain ⟨g, off, v, hAe, hg, hv, hcv⟩ := hB.at_ (i := (dig B64 n).length - 1) (by omega)
  obtain ⟨hN, hnl, hvl, hv0⟩ := normal_shift hn hv
  have hnb := nbits_ne hv0
  have hlz := fun w => lz_any v hvl w
  have hs64 : 64 - nbits v ≤ 64 := by omega
  generalize 64 - nbits v = s at *
  have hml := shift_len (m := m) (s := s) hs64
  have hge : (dig B64 n).length ≤ (dig B64 (n * 2 ^ s)).length := dig_len_mono (Nat.le_mul_of_pos_right _ (Nat.two_pow_pos s))
  have hsa := fun w' (h : W64 w' a m) => shiftLeft_any a m s w' h (by omega) (by omega)
  have hsb := fun w' (h : W64 w' b n) => shiftLeft_any b n s w' h (by omega) (by omega)
  have hdn := fun x y w' (h : W64 w' x (m * 2 ^ s)) (k : W64 w' y (n * 2 ^ s)) => divideNormal_any x y _ _ w' h k hN (by omega) (by omega) (by omega)
  have e1 : m * 2 ^ s / (n * 2 ^ s) = m / n := Nat.mul_div_mul_right _ _ (Nat.two_pow_pos s)
  have e2 : m * 2 ^ s % (n * 2 ^ s) = m % n * 2 ^ s := Nat.mul_mod_mul_right _ _ _
  rw [e1, e2] at hdn
  have hrl : (dig B64 (m % n * 2 ^ s)).length ≤ 100000000 := by
    have := lenm (show m % n * 2 ^ s ≤ m * 2 ^ s from Nat.mul_le_mul_right _ (Nat.mod_le _ _))
    omega
  have hsr := fun x w' (h : W64 w' x (m % n * 2 ^ s)) => shiftRight_any x _ s w' h (by omega) (by omega)
  rw [Nat.mul_div_cancel _ (Nat.two_pow_pos s)] at hsr
  have HC := Lib.hid hcmp
  have HLZ := Lib.hid hlz
  have HSA := Lib.hid hsa
  have HSB := Lib.hid hsb
  have HDN := Lib.hid hdn
  have HSR := Lib.hid hsr
  have HA := Lib.hid ha
  have HB := Lib.hid hb
  obtain ⟨A, c, rfl, _⟩ := ha
  subst hbe hAe
  clear hcmp hlz hsa hsb hdn hsr hb hB hv hN hnl hml hge hrl e1 e2 hle hs hv0 hvl
  have hx : ((dig B64 n).length : Int) - 1 = (((dig B64 n).length - 1 : Nat) : Int) := by omega
  generalize (dig B64 m).length = L at *
  generalize hL' : (dig B64 n).length = L' at *
  obtain ⟨K, rfl⟩ : ∃ K, L' = K + 1 := ⟨L' - 1, by omega⟩
  rw [Nat.add_sub_cancel] at hcv
  clear hx hL'
  have hne : (((K : Int) + 1) == 1) = false := by simp; omega
  go_enter Try.func48, Try.ntmps48
  go_wp2_with (fail)
  refine HC.out.mono ?_
  rintro e w1 ⟨rfl, hb1⟩
  have hcv1 := (hb1.cell (p := ⟨g, off + K, none⟩) hg).trans hcv
  go_wp2_with (fail)
  refine (HLZ.out _).mono ?_
  rintro e w2 ⟨rfl, rfl⟩
  have ka := HA.out.keep hb1
  have kb := HB.out.keep hb1
  go_wp2_with (fail)
  refine (HSA.out _ ka).mono ?_
  rintro e w3 ⟨x, rfl, hx, hb3⟩
  go_wp2_with (fail)
  refine (HSB.out _ (kb.keep hb3)).mono ?_
  rintro e w4 ⟨y, rfl, hy, hb4⟩
  go_wp2_with (fail)
  refine (HDN.out _ _ _ (hx.is.keep hb4) hy.is).mono ?_
  rintro e w5 ⟨q, r, rfl, hq, hr, hb5⟩
  go_wp2_with (fail)
  refine (HSR.out _ _ hr).mono ?_
  rintro e w6 ⟨z, rfl, hz, hb6⟩
  go_wp2
  go_ret2
  exact ⟨_, _, rfl, hq.keep hb6, hz, below_at (below_at (below_at (below_at hb1 (Nat.le_refl _) hb3) (Nat.le_refl _) hb4) (Nat.le_refl _) hb5) (Nat.le_refl _) hb6⟩

/-- divide: where long division is what is done. -/
theorem divide_any (a b : Value) (m n : Nat) (w : World) (ha : W64 w a m) (hb : W64 w b n) (hn0 : 0 < n) (hn : (dig B64 n).length ≤ 10000000) (hm : (dig B64 m).length ≤ 10000000) (hs : (dig B64 n).length < 200 ∨ (dig B64 m).length < 199 + (dig B64 n).length) :
    Calls Try.prog 48 #[a, b] w (DivPost w (m / n) (m % n)) := by
  rcases Nat.lt_or_ge m n with h | h
  · exact divide_lt a b m n w ha hb (by omega) (by omega) h
  · have h1 := dig_len_pos (n := n) (by omega)
    rcases Nat.lt_or_ge (dig B64 n).length 2 with h2 | h2
    · exact divide_one a b m n w ha hb (by omega) (by omega) h
    · exact divide_long a b m n w ha hb h2 hm h hs
end Go.Proofs.Ythgekjkgfccnaaa

namespace Go.Proofs.Ythgekjkgfccnaaa
open Go.RowKit Num

theorem own_v (v : Nat) (h0 : 0 < v) (hv : v < B64) (w : World) : W64 (w.alloc (.cells #[.int .u64 (v : Int)] 55)) (.slice (some ⟨w.heap.size, 0, none⟩) 1 1) v := by
  have hr := row_one w v
  have hlow : Low B64 [v] := Low.cons hv (Low.nil _)
  have := (own_of_trim b64_two hr hlow (Nat.le_refl w.heap.size)).is
  have hval : val B64 [v] = v := by simp [val]
  have hd : dig B64 v = [v] := dig1 b64_two (by omega) hv
  rw [hval, hd] at this
  exact this
/-- The numbers of a root that is not found at once. -/
theorem root_numbers {n m r : Nat} (h : IsRoot n m r) (hn : 0 < n) (hs : n < nbits m) : ∃ D, (nbits m - 1) / n + 1 = D ∧ 2 ^ (D - 1) ≤ r ∧ r < 2 ^ D ∧ n * (D - 1) ≤ nbits m - 1 ∧ 2 ≤ D ∧ D ≤ nbits m := by
  have hm0 : m ≠ 0 := fun h0 => by rw [h0] at hs; simp [nbits] at hs
  have h1 := nbits_ge hm0
  have h2 := nbits_lt m
  have hd := Nat.div_add_mod (nbits m - 1) n
  have hr := Nat.mod_lt (nbits m - 1) hn
  have hge : 1 ≤ (nbits m - 1) / n := (Nat.le_div_iff_mul_le hn).2 (by omega)
  have hle := Nat.div_le_self (nbits m - 1) n
  refine ⟨_, rfl, ?_, ?_, ?_, by omega, by omega⟩
  all_goals generalize (nbits m - 1) / n = q at *
  · have : 2 ^ q < r + 1 := by
      refine pow_lt_iff (n := n) (Nat.lt_of_le_of_lt ?_ h.2)
      rw [← Nat.pow_mul, Nat.mul_comm]
      exact Nat.le_trans (Nat.pow_le_pow_right (by omega) (by omega)) h1
    rw [Nat.add_sub_cancel]; omega
  · refine pow_lt_iff (n := n) (Nat.lt_of_le_of_lt h.1 (Nat.lt_of_lt_of_le h2 ?_))
    rw [← Nat.pow_mul, Nat.mul_comm]
    refine Nat.pow_le_pow_right (by omega) ?_
    rw [Nat.mul_add]; omega
  · rw [Nat.add_sub_cancel]; omega
theorem pow_len {n m r : Nat} (h : r ^ n ≤ m) (h0 : 0 < r) (hn : n ≤ nbits m) (hb : nbits m ≤ 8000) : ∀ y, y ≤ 2 * r → ∀ j, j ≤ n → (dig B64 (y ^ j)).length ≤ 251 := by
  intro y hy j hj
  refine dig_len_le b64_two ?_
  have h1 : y ^ j ≤ (2 * r) ^ n := Nat.le_trans (Nat.pow_le_pow_left hy j) (Nat.pow_le_pow_right (by omega) hj)
  rw [Nat.mul_pow] at h1
  have h2 := Nat.mul_le_mul_left (2 ^ n) h
  have h3 : 2 ^ n * m < 2 ^ n * 2 ^ nbits m := Nat.mul_lt_mul_of_pos_left (nbits_lt m) (Nat.two_pow_pos n)
  rw [← Nat.pow_add] at h3
  have h4 : ∀ K, n + nbits m ≤ 64 * K → y ^ j < B64 ^ K := fun K hK => by
    rw [← pow_b64]
    exact Nat.lt_of_le_of_lt (Nat.le_trans h1 h2) (Nat.lt_of_lt_of_le h3 (Nat.pow_le_pow_right (by omega) hK))
  exact h4 251 (by omega)
theorem newton_y {D L low n r : Nat} (hn : n + 1 < 2 ^ L) (hl : 2 * low + L ≤ D) (hr : 2 ^ (D - 1) ≤ r) (hD : 1 ≤ D) (X : Nat) (hX : X = (r / 2 ^ low + 1) * 2 ^ low) : r < X ∧ X ≤ r + 2 ^ low ∧ n * ((X - (r + 1)) * (X - (r + 1))) ≤ 2 * (r + 1) := by
  have hp := Nat.two_pow_pos low
  have h1 := Nat.lt_div_mul_add (a := r) hp
  have h2 := Nat.div_mul_le_self r (2 ^ low)
  rw [Nat.add_mul, Nat.one_mul] at hX
  refine ⟨by omega, by omega, ?_⟩
  have h3 : X - (r + 1) ≤ 2 ^ low := by omega
  have h4 : n * ((X - (r + 1)) * (X - (r + 1))) ≤ 2 ^ L * (2 ^ low * 2 ^ low) := Nat.mul_le_mul (by omega) (Nat.mul_le_mul h3 h3)
  rw [← Nat.pow_add, ← Nat.pow_add] at h4
  have h5 : 2 ^ (L + (low + low)) ≤ 2 ^ D := Nat.pow_le_pow_right (by omega) (by omega)
  have h6 : 2 ^ D = 2 * 2 ^ (D - 1) := by rw [← Nat.pow_succ']; congr 1; omega
  omega

set_option maxHeartbeats 2000000 in
set_option maxRecDepth 100000 in
theorem newton_any (a x : Value) (m n k X : Nat) (w : World) (ha : W64 w a m) (hx : W64 w x X) (hk : n = k + 1) (hk0 : 0 < k) (hn : n ≤ 10000) (hX : 0 < X) (hm : (dig B64 m).length ≤ 190) (hp : ∀ j, j ≤ k → (dig B64 (X ^ j)).length ≤ 300) (hp1 : (dig B64 X).length ≤ 300) :
    Calls Try.prog 78 #[a, .int .i64 (n : Int), x] w (NumPost w ((k * X + m / X ^ k) / n)) := by
  have e1 : (n : Int) - 1 = (k : Int) := by omega
  have e2 : IntKind.u64.wrap (k : Int) = (k : Int) := by rw [IntKind.wrap_u64]; omega
  have e3 : IntKind.u64.wrap (n : Int) = (n : Int) := by rw [IntKind.wrap_u64]; omega
  have hpw := fun w' (h : W64 w' x X) => power_any (mulSpec_all 300 (by omega)) x X k w' h (by omega) hp1 hp
  have hXk : 0 < X ^ k := Nat.pow_pos hX
  have hdv := fun v w' (h : W64 w' a m) (l : W64 w' v (X ^ k)) => divide_any a v m _ w' h l hXk (by have := hp k (Nat.le_refl _); omega) (by omega) (.inr (by omega))
  have hok := fun w' => own_v k hk0 (by unfold B64; omega) w'
  have hkl : (dig B64 k).length ≤ 1 := small64 (by unfold B64; omega)
  have hmu := fun v w' (h : W64 w' x X) (l : W64 w' v k) => mulAt_all (m := X) (n := k) (by omega) (by omega) x v w' h l
  have hxl : (dig B64 (X * k)).length ≤ 301 := by
    have g : ∀ K, (dig B64 X).length ≤ K → (dig B64 (X * k)).length ≤ K + 1 := fun K hK => by
      refine dig_len_le b64_two ?_
      have h1 := Nat.lt_of_lt_of_le (dig_len_lt b64_two (n := X)) (Nat.pow_le_pow_right b64_pos hK)
      rw [Nat.pow_succ]
      exact Nat.mul_lt_mul_of_lt_of_lt h1 (by unfold B64; omega)
    exact g 300 hp1
  have hql : (dig B64 (m / X ^ k)).length ≤ 190 := Nat.le_trans (lenm (Nat.div_le_self _ _)) hm
  have hsu := fun u v w' (h : W64 w' u (X * k)) (l : W64 w' v (m / X ^ k)) => sum_any u v _ _ w' h l (by omega) (by omega)
  have g2 : ∀ K, (dig B64 (X * k)).length ≤ K → (dig B64 (m / X ^ k)).length ≤ K → (dig B64 (X * k + m / X ^ k)).length ≤ K + 1 := fun K h1 h2 =>
    dig_len_le b64_two (two_pow_lt b64_two (Nat.lt_of_lt_of_le (dig_len_lt b64_two) (Nat.pow_le_pow_right b64_pos h1)) (Nat.lt_of_lt_of_le (dig_len_lt b64_two) (Nat.pow_le_pow_right b64_pos h2)))
  have hsl := g2 301 hxl (by omega)
  clear g2
  have hdw := fun u w' (h : W64 w' u (X * k + m / X ^ k)) => divideWord_call u _ n w' h (by omega) (by omega) (by unfold B64; omega)
  rw [Nat.mul_comm k X]
  generalize X * k + m / X ^ k = S at *
  generalize m / X ^ k = Q at *
  generalize X ^ k = P at *
  generalize X * k = M at *
  have HPW := Lib.hid hpw
  have HDV := Lib.hid hdv
  have HOK := Lib.hid hok
  have HMU := Lib.hid hmu
  have HSU := Lib.hid hsu
  have HDW := Lib.hid hdw
  clear hpw hdv hok hmu hsu hdw
  have HA := Lib.hid ha
  have HX := Lib.hid hx
  clear hp hp1 hkl hxl hql hsl hXk hm ha hx hk hX
  go_enter Try.func78, Try.ntmps78
  go_wp2_with (fail)
  refine (HPW.out _ HX.out).mono ?_
  rintro e w1 ⟨v1, rfl, hv1, hb1⟩
  have b1 := below_at (Below.refl _ _) (Nat.le_refl _) hb1
  have ka_1 := HA.out.keep hb1
  have kx_1 := HX.out.keep hb1
  have k1_1 := hv1.is
  go_wp2_with (fail)
  refine (HDV.out _ _ ka_1 k1_1).mono ?_
  rintro e w2 ⟨q, r, rfl, hq, _, hb2⟩
  have b2 := below_at b1 (Nat.le_refl _) hb2
  have kx_2 := kx_1.keep hb2
  have kq_2 := hq
  go_wp2_with (fail)
  refine (HMU.out _ _ (kx_2.keep (below_new _ (.cells #[.int .u64 (k : Int)] 55))) (HOK.out _)).mono ?_
  rintro e w3 ⟨v3, rfl, hv3, hb3⟩
  have b3 := below_at (b2.alloc b2.size _) (Nat.le_refl _) hb3
  have kq_3 := (kq_2.keep (below_new _ (.cells #[.int .u64 (k : Int)] 55))).keep hb3
  have k3_3 := hv3.is
  go_wp2_with (fail)
  refine (HSU.out _ _ _ k3_3 kq_3).mono ?_
  rintro e w4 ⟨v4, rfl, hv4, hb4⟩
  have b4 := below_at b3 (Nat.le_refl _) hb4
  have k4_4 := hv4.is
  go_wp2_with (fail)
  refine (HDW.out _ _ k4_4).mono ?_
  rintro e w5 ⟨v5, rfl, hv5, hb5⟩
  have b5 := below_at b4 (Nat.le_refl _) hb5
  have k4_5 := k4_4.keep hb5
  go_wp2
  go_ret
  exact ⟨_, rfl, hv5.is, b5⟩

set_option maxHeartbeats 1200000 in
set_option maxRecDepth 100000 in
theorem root_a0 (N : Nat) (IH : ∀ m, m < N → ∀ (n r : Nat) (a : Value) (w : World), W64 w a m → 0 < m → 0 < n → nbits m ≤ 8000 → IsRoot n m r → Calls Try.prog 53 #[a, .int .i64 (n : Int)] w (NumPost w r)) (m n r D L low : Nat) (a : Value) (w : World) (hmN : m ≤ N) (ha : W64 w a m) (hr : IsRoot n m r) (hn2 : 2 ≤ n) (hns : n < nbits m) (hb : nbits m ≤ 8000) (hD : (nbits m - 1) / n + 1 = D) (hr1 : 2 ^ (D - 1) ≤ r) (hnD : n * (D - 1) ≤ nbits m - 1) (hD2 : 2 ≤ D) (hDs : D ≤ nbits m) (hL : nbits n = L) (hl : 2 * low + L ≤ D) (hl2 : D ≤ 2 * low + L + 1) (hl1 : 1 ≤ low) (hz : ((n - 1) * ((r / 2 ^ low + 1) * 2 ^ low) + m / ((r / 2 ^ low + 1) * 2 ^ low) ^ (n - 1)) / n = r) :
    Calls Try.prog 53 #[a, .int .i64 (n : Int)] w (NumPost w r) := by
  have hm0 : 0 < m := by
    rcases Nat.eq_zero_or_pos m with h | h
    · rw [h] at hns; simp [nbits] at hns
    · exact h
  have hr0 : 0 < r := Nat.lt_of_lt_of_le (Nat.two_pow_pos _) hr1
  have hpl := pow_len hr.1 hr0 (Nat.le_of_lt hns) hb
  have hbm := nbits_ge (Nat.pos_iff_ne_zero.1 hm0)
  have hwl : (dig B64 m).length ≤ 125 := len_of_bits (by omega)
  have hLn : n < 2 ^ L := by rw [← hL]; exact nbits_lt n
  have hL64 : L ≤ 13 := by rw [← hL]; exact nbits_le (by omega)
  have hbits := fun w' (h : W64 w' a m) => bits_call a m w' h (by omega)
  have hlen := fun w' => len_nat n w' (by unfold B64; omega)
  rw [hL] at hlen
  have hwn : IntKind.u64.wrap (n : Int) = (n : Int) := by rw [IntKind.wrap_u64]; omega
  have hdd : ((nbits m : Nat) : Int) - 1 = ((nbits m - 1 : Nat) : Int) := by omega
  have hdq : ((nbits m - 1 : Nat) : Int) / (n : Int) = (((nbits m - 1) / n : Nat) : Int) := (Int.natCast_ediv _ _).symm
  have hn0 : ((n : Int) == 0) = false := by simp; omega
  have hn1 : ((n : Int) == 1) = false := by simp; omega
  have hrl : (dig B64 r).length ≤ 251 := by have := hpl r (by omega) 1 (by omega); rwa [Nat.pow_one] at this
  have hown := fun w' => own_v 1 (by omega) (by unfold B64; omega) w'
  have h1l : (dig B64 1).length ≤ 1 := small64 (by unfold B64; omega)
  obtain ⟨X, hX⟩ : ∃ X, (r / 2 ^ low + 1) * 2 ^ low = X := ⟨_, rfl⟩
  have hlr : 2 ^ low ≤ r := Nat.le_trans (Nat.pow_le_pow_right (by omega) (by omega)) hr1
  have hy := newton_y (n := n - 1) (by omega) hl hr1 (by omega) X hX.symm
  have hl0 : low < D := by omega
  obtain ⟨nl, hnl⟩ : ∃ nl, n * low = nl := ⟨_, rfl⟩
  have hnl1 : nl ≤ nbits m - 1 := by rw [← hnl]; exact Nat.le_trans (Nat.mul_le_mul_left n (by omega)) hnD
  have hnl2 : 1 ≤ nl := by rw [← hnl]; exact Nat.mul_pos (by omega) hl1
  have hnlI : (n : Int) * (low : Int) = (nl : Int) := by rw [← hnl]; exact (Int.natCast_mul n low).symm
  have hhigh := hr.high low
  rw [hnl] at hhigh
  have hm1 : 0 < m / 2 ^ nl := Nat.div_pos (Nat.le_trans (Nat.pow_le_pow_right (by omega) hnl1) hbm) (Nat.two_pow_pos _)
  have hm2 : m / 2 ^ nl < N := Nat.lt_of_lt_of_le (Nat.div_lt_self hm0 (Nat.one_lt_two_pow (by omega))) hmN
  have hb1 : nbits (m / 2 ^ nl) ≤ 8000 := Nat.le_trans (nbits_le (Nat.lt_of_le_of_lt (Nat.div_le_self _ _) (nbits_lt m))) hb
  have hsr := fun w' (h : W64 w' a m) => shiftRight_any a m nl w' h (by omega) (by omega)
  have hrt := fun v w' (h : W64 w' v (m / 2 ^ nl)) => IH _ hm2 n _ v w' h hm1 (by omega) hb1 hhigh
  have hrr : (dig B64 (r / 2 ^ low)).length ≤ 251 := Nat.le_trans (lenm (Nat.div_le_self _ _)) hrl
  have hs1 := fun u v w' (h : W64 w' u (r / 2 ^ low)) (l : W64 w' v 1) => sum_any u v _ 1 w' h l (by omega) (by omega)
  have hXl : (dig B64 X).length ≤ 251 := by have := hpl X (by omega) 1 (by omega); rwa [Nat.pow_one] at this
  have hpp : r / 2 ^ low + 1 ≤ X := by rw [← hX]; exact Nat.le_mul_of_pos_right _ (Nat.two_pow_pos low)
  have hal : (dig B64 (r / 2 ^ low + 1)).length ≤ 251 := Nat.le_trans (lenm hpp) hXl
  have hsl := fun v w' (h : W64 w' v (r / 2 ^ low + 1)) => shiftLeft_any v _ low w' h (by omega) (by omega)
  rw [hX] at hsl hz
  have hnw := fun v w' (h : W64 w' a m) (l : W64 w' v X) => newton_any a v m n (n - 1) X w' h l (by omega) (by omega) (by omega) (by omega) (by omega) (fun j hj => Nat.le_trans (hpl X (by omega) j (by omega)) (by omega)) (by omega)
  rw [hz] at hnw
  have hlq : (D : Int) - (L : Int) = ((D - L : Nat) : Int) := by omega
  have hl5 : ((D - L : Nat) : Int) / 2 = (low : Int) := by omega
  have hl6 : ((D - L : Nat) : Int).tdiv 2 = (low : Int) := by rw [Int.tdiv_eq_ediv_of_nonneg (by omega)]; exact hl5
  have hpw := fun v w' (h : W64 w' v (r)) => power_any (mulSpec_all 251 (by omega)) v (r) n w' h (by omega) (by have := hpl (r) (by omega) 1 (by omega); rwa [Nat.pow_one] at this) (fun j hj => hpl (r) (by omega) j hj)
  have hzl := hpl (r) (by omega) n (Nat.le_refl _)
  have hcm := fun v w' (h : W64 w' v ((r) ^ n)) (k : W64 w' a m) => cmp64_call v a _ m w' h k (by omega) (by omega)
  have hcc : cmpN (r ^ n) m ≤ 0 := by
    rcases Nat.lt_or_ge (r ^ n) m with h | h
    · rw [cmpN_lt h]; omega
    · rw [show r ^ n = m from Nat.le_antisymm hr.1 h, cmpN_eq]; omega
  generalize cmpN (r ^ n) m = cc at *
  have HBITS := Lib.hid hbits
  have HLEN := Lib.hid hlen
  have HOWN := Lib.hid hown
  have HSR := Lib.hid hsr
  have HRT := Lib.hid hrt
  have HS1 := Lib.hid hs1
  have HSL := Lib.hid hsl
  have HNW := Lib.hid hnw
  have HPW := Lib.hid hpw
  have HCM := Lib.hid hcm
  clear hbits hlen hown hsr hrt hs1 hsl hnw hpw hcm
  have HA := Lib.hid ha
  obtain ⟨sz, hsz⟩ : ∃ sz, nbits m = sz := ⟨_, rfl⟩
  obtain ⟨A, c, rfl, _⟩ := ha
  rw [hsz] at HBITS hdd hdq hD hns hDs hb hnD hnl1
  obtain ⟨sm, hsm⟩ : ∃ sm, sz - 1 = sm := ⟨_, rfl⟩
  rw [hsm] at hdd hdq hD hnl1
  obtain ⟨q, hq⟩ : ∃ q, sm / n = q := ⟨_, rfl⟩
  rw [hq] at hdq hD
  have hD' : (q : Int) + 1 = (D : Int) := by omega
  have hqt : (sm : Int).tdiv (n : Int) = (q : Int) := by rw [Int.tdiv_eq_ediv_of_nonneg (by omega)]; exact hdq
  have hns' : ¬ sz ≤ n := by omega
  clear hsz hsm hq hD hr hr1 hnD hL hpl hbm hLn hrl h1l hz hzl hal hrr hb1 hm1 hm2 hhigh IH hwl hmN hr0 hm0 hX hlr hy hl0 hnl hXl hpp
  generalize (dig B64 m).length = LL at *
  obtain ⟨x, hx⟩ : ∃ x, D - L = x := ⟨_, rfl⟩
  rw [hx] at hlq hl5 hl6
  clear hx
  go_enter Try.func53, Try.ntmps53
  go_wp2_with (fail)
  refine (HBITS.out _ HA.out).mono ?_
  rintro e w1 ⟨rfl, rfl⟩
  go_wp2_with (fail)
  refine (HLEN.out _).mono ?_
  rintro e w2 ⟨rfl, rfl⟩
  go_wp2_with (fail)
  refine (HSR.out _ HA.out).mono ?_
  rintro e w3 ⟨v3, rfl, hv3, hb3⟩
  have b3 := below_at (Below.refl _ _) (Nat.le_refl _) hb3
  have ka_3 := HA.out.keep hb3
  have k3_3 := hv3
  go_wp2_with (fail)
  refine (HRT.out _ _ k3_3).mono ?_
  rintro e w4 ⟨v4, rfl, hv4, hb4⟩
  have b4 := below_at b3 (Nat.le_refl _) hb4
  have ka_4 := ka_3.keep hb4
  have k4_4 := hv4
  go_wp2_with (fail)
  refine (HS1.out _ _ _ (k4_4.keep (below_new _ (.cells #[.int .u64 1] 55))) (HOWN.out _)).mono ?_
  rintro e w5 ⟨v5, rfl, hv5, hb5⟩
  have b5 := below_at (Below.alloc b4 b4.size _) (Nat.le_refl _) hb5
  have ka_5 := (ka_4.keep (below_new _ (.cells #[.int .u64 1] 55))).keep hb5
  have k5_5 := hv5.is
  go_wp2_with (fail)
  refine (HSL.out _ _ k5_5).mono ?_
  rintro e w6 ⟨v6, rfl, hv6, hb6⟩
  have b6 := below_at b5 (Nat.le_refl _) hb6
  have ka_6 := ka_5.keep hb6
  have k6_6 := hv6.is
  go_wp2_with (fail)
  refine (HNW.out _ _ ka_6 k6_6).mono ?_
  rintro e w7 ⟨v7, rfl, hv7, hb7⟩
  have b7 := below_at b6 (Nat.le_refl _) hb7
  have ka_7 := ka_6.keep hb7
  have kz_7 := hv7
  go_wp2_with (fail)
  refine (HPW.out _ _ kz_7).mono ?_
  rintro e w8 ⟨v8, rfl, hv8, hb8⟩
  have b8 := below_at b7 (Nat.le_refl _) hb8
  have ka_8 := ka_7.keep hb8
  have kz_8 := kz_7.keep hb8
  have k8_8 := hv8.is
  go_wp2_with (fail)
  refine (HCM.out _ _ k8_8 ka_8).mono ?_
  rintro e w9 ⟨rfl, hb9⟩
  have b9 := below_at b8 (Nat.le_refl _) hb9
  have kz_9 := kz_8.keep hb9
  go_wp2
  go_ret
  exact ⟨_, rfl, kz_9, b9⟩

set_option maxHeartbeats 1200000 in
set_option maxRecDepth 100000 in
theorem root_a1 (N : Nat) (IH : ∀ m, m < N → ∀ (n r : Nat) (a : Value) (w : World), W64 w a m → 0 < m → 0 < n → nbits m ≤ 8000 → IsRoot n m r → Calls Try.prog 53 #[a, .int .i64 (n : Int)] w (NumPost w r)) (m n r D L low : Nat) (a : Value) (w : World) (hmN : m ≤ N) (ha : W64 w a m) (hr : IsRoot n m r) (hn2 : 2 ≤ n) (hns : n < nbits m) (hb : nbits m ≤ 8000) (hD : (nbits m - 1) / n + 1 = D) (hr1 : 2 ^ (D - 1) ≤ r) (hnD : n * (D - 1) ≤ nbits m - 1) (hD2 : 2 ≤ D) (hDs : D ≤ nbits m) (hL : nbits n = L) (hl : 2 * low + L ≤ D) (hl2 : D ≤ 2 * low + L + 1) (hl1 : 1 ≤ low) (hz : ((n - 1) * ((r / 2 ^ low + 1) * 2 ^ low) + m / ((r / 2 ^ low + 1) * 2 ^ low) ^ (n - 1)) / n = r + 1) :
    Calls Try.prog 53 #[a, .int .i64 (n : Int)] w (NumPost w r) := by
  have hm0 : 0 < m := by
    rcases Nat.eq_zero_or_pos m with h | h
    · rw [h] at hns; simp [nbits] at hns
    · exact h
  have hr0 : 0 < r := Nat.lt_of_lt_of_le (Nat.two_pow_pos _) hr1
  have hpl := pow_len hr.1 hr0 (Nat.le_of_lt hns) hb
  have hbm := nbits_ge (Nat.pos_iff_ne_zero.1 hm0)
  have hwl : (dig B64 m).length ≤ 125 := len_of_bits (by omega)
  have hLn : n < 2 ^ L := by rw [← hL]; exact nbits_lt n
  have hL64 : L ≤ 13 := by rw [← hL]; exact nbits_le (by omega)
  have hbits := fun w' (h : W64 w' a m) => bits_call a m w' h (by omega)
  have hlen := fun w' => len_nat n w' (by unfold B64; omega)
  rw [hL] at hlen
  have hwn : IntKind.u64.wrap (n : Int) = (n : Int) := by rw [IntKind.wrap_u64]; omega
  have hdd : ((nbits m : Nat) : Int) - 1 = ((nbits m - 1 : Nat) : Int) := by omega
  have hdq : ((nbits m - 1 : Nat) : Int) / (n : Int) = (((nbits m - 1) / n : Nat) : Int) := (Int.natCast_ediv _ _).symm
  have hn0 : ((n : Int) == 0) = false := by simp; omega
  have hn1 : ((n : Int) == 1) = false := by simp; omega
  have hrl : (dig B64 r).length ≤ 251 := by have := hpl r (by omega) 1 (by omega); rwa [Nat.pow_one] at this
  have hown := fun w' => own_v 1 (by omega) (by unfold B64; omega) w'
  have h1l : (dig B64 1).length ≤ 1 := small64 (by unfold B64; omega)
  obtain ⟨X, hX⟩ : ∃ X, (r / 2 ^ low + 1) * 2 ^ low = X := ⟨_, rfl⟩
  have hlr : 2 ^ low ≤ r := Nat.le_trans (Nat.pow_le_pow_right (by omega) (by omega)) hr1
  have hy := newton_y (n := n - 1) (by omega) hl hr1 (by omega) X hX.symm
  have hl0 : low < D := by omega
  obtain ⟨nl, hnl⟩ : ∃ nl, n * low = nl := ⟨_, rfl⟩
  have hnl1 : nl ≤ nbits m - 1 := by rw [← hnl]; exact Nat.le_trans (Nat.mul_le_mul_left n (by omega)) hnD
  have hnl2 : 1 ≤ nl := by rw [← hnl]; exact Nat.mul_pos (by omega) hl1
  have hnlI : (n : Int) * (low : Int) = (nl : Int) := by rw [← hnl]; exact (Int.natCast_mul n low).symm
  have hhigh := hr.high low
  rw [hnl] at hhigh
  have hm1 : 0 < m / 2 ^ nl := Nat.div_pos (Nat.le_trans (Nat.pow_le_pow_right (by omega) hnl1) hbm) (Nat.two_pow_pos _)
  have hm2 : m / 2 ^ nl < N := Nat.lt_of_lt_of_le (Nat.div_lt_self hm0 (Nat.one_lt_two_pow (by omega))) hmN
  have hb1 : nbits (m / 2 ^ nl) ≤ 8000 := Nat.le_trans (nbits_le (Nat.lt_of_le_of_lt (Nat.div_le_self _ _) (nbits_lt m))) hb
  have hsr := fun w' (h : W64 w' a m) => shiftRight_any a m nl w' h (by omega) (by omega)
  have hrt := fun v w' (h : W64 w' v (m / 2 ^ nl)) => IH _ hm2 n _ v w' h hm1 (by omega) hb1 hhigh
  have hrr : (dig B64 (r / 2 ^ low)).length ≤ 251 := Nat.le_trans (lenm (Nat.div_le_self _ _)) hrl
  have hs1 := fun u v w' (h : W64 w' u (r / 2 ^ low)) (l : W64 w' v 1) => sum_any u v _ 1 w' h l (by omega) (by omega)
  have hXl : (dig B64 X).length ≤ 251 := by have := hpl X (by omega) 1 (by omega); rwa [Nat.pow_one] at this
  have hpp : r / 2 ^ low + 1 ≤ X := by rw [← hX]; exact Nat.le_mul_of_pos_right _ (Nat.two_pow_pos low)
  have hal : (dig B64 (r / 2 ^ low + 1)).length ≤ 251 := Nat.le_trans (lenm hpp) hXl
  have hsl := fun v w' (h : W64 w' v (r / 2 ^ low + 1)) => shiftLeft_any v _ low w' h (by omega) (by omega)
  rw [hX] at hsl hz
  have hnw := fun v w' (h : W64 w' a m) (l : W64 w' v X) => newton_any a v m n (n - 1) X w' h l (by omega) (by omega) (by omega) (by omega) (by omega) (fun j hj => Nat.le_trans (hpl X (by omega) j (by omega)) (by omega)) (by omega)
  rw [hz] at hnw
  have hlq : (D : Int) - (L : Int) = ((D - L : Nat) : Int) := by omega
  have hl5 : ((D - L : Nat) : Int) / 2 = (low : Int) := by omega
  have hl6 : ((D - L : Nat) : Int).tdiv 2 = (low : Int) := by rw [Int.tdiv_eq_ediv_of_nonneg (by omega)]; exact hl5
  have hpw := fun v w' (h : W64 w' v (r + 1)) => power_any (mulSpec_all 251 (by omega)) v (r + 1) n w' h (by omega) (by have := hpl (r + 1) (by omega) 1 (by omega); rwa [Nat.pow_one] at this) (fun j hj => hpl (r + 1) (by omega) j hj)
  have hzl := hpl (r + 1) (by omega) n (Nat.le_refl _)
  have hcm := fun v w' (h : W64 w' v ((r + 1) ^ n)) (k : W64 w' a m) => cmp64_call v a _ m w' h k (by omega) (by omega)
  have hcc : cmpN ((r + 1) ^ n) m = 1 := cmpN_gt hr.2
  rw [hcc] at hcm
  have hdf := fun u v w' (h : W64 w' u (r + 1)) (k : W64 w' v 1) => diff_any u v (r + 1) 1 w' h k (by have := hpl (r + 1) (by omega) 1 (by omega); rw [Nat.pow_one] at this; omega) (by omega)
  rw [Nat.add_sub_cancel] at hdf
  have HBITS := Lib.hid hbits
  have HLEN := Lib.hid hlen
  have HOWN := Lib.hid hown
  have HSR := Lib.hid hsr
  have HRT := Lib.hid hrt
  have HS1 := Lib.hid hs1
  have HSL := Lib.hid hsl
  have HNW := Lib.hid hnw
  have HPW := Lib.hid hpw
  have HCM := Lib.hid hcm
  have HDF := Lib.hid hdf
  clear hbits hlen hown hsr hrt hs1 hsl hnw hpw hcm hdf
  have HA := Lib.hid ha
  obtain ⟨sz, hsz⟩ : ∃ sz, nbits m = sz := ⟨_, rfl⟩
  obtain ⟨A, c, rfl, _⟩ := ha
  rw [hsz] at HBITS hdd hdq hD hns hDs hb hnD hnl1
  obtain ⟨sm, hsm⟩ : ∃ sm, sz - 1 = sm := ⟨_, rfl⟩
  rw [hsm] at hdd hdq hD hnl1
  obtain ⟨q, hq⟩ : ∃ q, sm / n = q := ⟨_, rfl⟩
  rw [hq] at hdq hD
  have hD' : (q : Int) + 1 = (D : Int) := by omega
  have hqt : (sm : Int).tdiv (n : Int) = (q : Int) := by rw [Int.tdiv_eq_ediv_of_nonneg (by omega)]; exact hdq
  have hns' : ¬ sz ≤ n := by omega
  clear hsz hsm hq hD hr hr1 hnD hL hpl hbm hLn hrl h1l hz hzl hal hrr hb1 hm1 hm2 hhigh IH hwl hmN hr0 hm0 hX hlr hy hl0 hnl hXl hpp hcc
  generalize (dig B64 m).length = LL at *
  obtain ⟨x, hx⟩ : ∃ x, D - L = x := ⟨_, rfl⟩
  rw [hx] at hlq hl5 hl6
  clear hx
  go_enter Try.func53, Try.ntmps53
  go_wp2_with (fail)
  refine (HBITS.out _ HA.out).mono ?_
  rintro e w1 ⟨rfl, rfl⟩
  go_wp2_with (fail)
  refine (HLEN.out _).mono ?_
  rintro e w2 ⟨rfl, rfl⟩
  go_wp2_with (fail)
  refine (HSR.out _ HA.out).mono ?_
  rintro e w3 ⟨v3, rfl, hv3, hb3⟩
  have b3 := below_at (Below.refl _ _) (Nat.le_refl _) hb3
  have ka_3 := HA.out.keep hb3
  have k3_3 := hv3
  go_wp2_with (fail)
  refine (HRT.out _ _ k3_3).mono ?_
  rintro e w4 ⟨v4, rfl, hv4, hb4⟩
  have b4 := below_at b3 (Nat.le_refl _) hb4
  have ka_4 := ka_3.keep hb4
  have k4_4 := hv4
  go_wp2_with (fail)
  refine (HS1.out _ _ _ (k4_4.keep (below_new _ (.cells #[.int .u64 1] 55))) (HOWN.out _)).mono ?_
  rintro e w5 ⟨v5, rfl, hv5, hb5⟩
  have b5 := below_at (Below.alloc b4 b4.size _) (Nat.le_refl _) hb5
  have ka_5 := (ka_4.keep (below_new _ (.cells #[.int .u64 1] 55))).keep hb5
  have k5_5 := hv5.is
  go_wp2_with (fail)
  refine (HSL.out _ _ k5_5).mono ?_
  rintro e w6 ⟨v6, rfl, hv6, hb6⟩
  have b6 := below_at b5 (Nat.le_refl _) hb6
  have ka_6 := ka_5.keep hb6
  have k6_6 := hv6.is
  go_wp2_with (fail)
  refine (HNW.out _ _ ka_6 k6_6).mono ?_
  rintro e w7 ⟨v7, rfl, hv7, hb7⟩
  have b7 := below_at b6 (Nat.le_refl _) hb7
  have ka_7 := ka_6.keep hb7
  have kz_7 := hv7
  go_wp2_with (fail)
  refine (HPW.out _ _ kz_7).mono ?_
  rintro e w8 ⟨v8, rfl, hv8, hb8⟩
  have b8 := below_at b7 (Nat.le_refl _) hb8
  have ka_8 := ka_7.keep hb8
  have kz_8 := kz_7.keep hb8
  have k8_8 := hv8.is
  go_wp2_with (fail)
  refine (HCM.out _ _ k8_8 ka_8).mono ?_
  rintro e w9 ⟨rfl, hb9⟩
  have b9 := below_at b8 (Nat.le_refl _) hb9
  have kz_9 := kz_8.keep hb9
  go_wp2_with (fail)
  refine (HDF.out _ _ _ (kz_9.keep (below_new _ (.cells #[.int .u64 1] 55))) (HOWN.out _)).mono ?_
  rintro e w10 ⟨v9, rfl, hv9, hb10⟩
  have b10 := below_at (Below.alloc b9 b9.size _) (Nat.le_refl _) hb10
  have k9_10 := hv9.is
  go_wp2
  go_ret
  exact ⟨_, rfl, k9_10, b10⟩

set_option maxHeartbeats 1200000 in
set_option maxRecDepth 100000 in
theorem root_b0 (N : Nat) (IH : ∀ m, m < N → ∀ (n r : Nat) (a : Value) (w : World), W64 w a m → 0 < m → 0 < n → nbits m ≤ 8000 → IsRoot n m r → Calls Try.prog 53 #[a, .int .i64 (n : Int)] w (NumPost w r)) (m n r D L : Nat) (a : Value) (w : World) (hmN : m ≤ N) (ha : W64 w a m) (hr : IsRoot n m r) (hn2 : 2 ≤ n) (hns : n < nbits m) (hb : nbits m ≤ 8000) (hD : (nbits m - 1) / n + 1 = D) (hr1 : 2 ^ (D - 1) ≤ r) (hnD : n * (D - 1) ≤ nbits m - 1) (hD2 : 2 ≤ D) (hDs : D ≤ nbits m) (hL : nbits n = L) (hl : D < L + 2) (hz : r / 2 * 2 + 1 = r) :
    Calls Try.prog 53 #[a, .int .i64 (n : Int)] w (NumPost w r) := by
  have hm0 : 0 < m := by
    rcases Nat.eq_zero_or_pos m with h | h
    · rw [h] at hns; simp [nbits] at hns
    · exact h
  have hr0 : 0 < r := Nat.lt_of_lt_of_le (Nat.two_pow_pos _) hr1
  have hpl := pow_len hr.1 hr0 (Nat.le_of_lt hns) hb
  have hbm := nbits_ge (Nat.pos_iff_ne_zero.1 hm0)
  have hwl : (dig B64 m).length ≤ 125 := len_of_bits (by omega)
  have hLn : n < 2 ^ L := by rw [← hL]; exact nbits_lt n
  have hL64 : L ≤ 13 := by rw [← hL]; exact nbits_le (by omega)
  have hbits := fun w' (h : W64 w' a m) => bits_call a m w' h (by omega)
  have hlen := fun w' => len_nat n w' (by unfold B64; omega)
  rw [hL] at hlen
  have hwn : IntKind.u64.wrap (n : Int) = (n : Int) := by rw [IntKind.wrap_u64]; omega
  have hdd : ((nbits m : Nat) : Int) - 1 = ((nbits m - 1 : Nat) : Int) := by omega
  have hdq : ((nbits m - 1 : Nat) : Int) / (n : Int) = (((nbits m - 1) / n : Nat) : Int) := (Int.natCast_ediv _ _).symm
  have hn0 : ((n : Int) == 0) = false := by simp; omega
  have hn1 : ((n : Int) == 1) = false := by simp; omega
  have hrl : (dig B64 r).length ≤ 251 := by have := hpl r (by omega) 1 (by omega); rwa [Nat.pow_one] at this
  have hown := fun w' => own_v 1 (by omega) (by unfold B64; omega) w'
  have h1l : (dig B64 1).length ≤ 1 := small64 (by unfold B64; omega)
  have hhigh := hr.high 1
  rw [Nat.mul_one, Nat.pow_one] at hhigh
  have hm1 : 0 < m / 2 ^ n := Nat.div_pos (Nat.le_trans (Nat.pow_le_pow_right (by omega) (by omega)) hbm) (Nat.two_pow_pos _)
  have hm2 : m / 2 ^ n < N := Nat.lt_of_lt_of_le (Nat.div_lt_self hm0 (Nat.one_lt_two_pow (by omega))) hmN
  have hb1 : nbits (m / 2 ^ n) ≤ 8000 := Nat.le_trans (nbits_le (Nat.lt_of_le_of_lt (Nat.div_le_self _ _) (nbits_lt m))) hb
  have hsr := fun w' (h : W64 w' a m) => shiftRight_any a m n w' h (by omega) (by omega)
  have hrt := fun v w' (h : W64 w' v (m / 2 ^ n)) => IH _ hm2 n _ v w' h hm1 (by omega) hb1 hhigh
  have hrr : (dig B64 (r / 2)).length ≤ 251 := Nat.le_trans (lenm (Nat.div_le_self _ _)) hrl
  have hsl := fun v w' (h : W64 w' v (r / 2)) => shiftLeft_any v _ 1 w' h (by omega) (by omega)
  rw [Nat.pow_one] at hsl
  have hal : (dig B64 (r / 2 * 2)).length ≤ 251 := Nat.le_trans (lenm (Nat.div_mul_le_self _ _)) hrl
  have hs1 := fun u v w' (h : W64 w' u (r / 2 * 2)) (l : W64 w' v 1) => sum_any u v _ 1 w' h l (by omega) (by omega)
  rw [hz] at hs1
  obtain ⟨sd, hsd⟩ : ∃ sd : Int, (D : Int) - (L : Int) = sd := ⟨_, rfl⟩
  have hsd1 : -13 ≤ sd := by omega
  have hsd2 : sd ≤ 1 := by omega
  obtain ⟨t, ht⟩ : ∃ t : Int, sd.tdiv 2 = t := ⟨_, rfl⟩
  have ht0 : t ≤ 0 := by
    rw [← ht]
    rcases Int.lt_or_le sd 0 with h | h
    · obtain ⟨u, rfl⟩ : ∃ u, sd = -u := ⟨-sd, by omega⟩
      rw [Int.neg_tdiv, Int.tdiv_eq_ediv_of_nonneg (by omega)]; omega
    · rw [Int.tdiv_eq_ediv_of_nonneg h]; omega
  have ht1 : -10 ≤ t := by
    rw [← ht]
    rcases Int.lt_or_le sd 0 with h | h
    · obtain ⟨u, rfl⟩ : ∃ u, sd = -u := ⟨-sd, by omega⟩
      rw [Int.neg_tdiv, Int.tdiv_eq_ediv_of_nonneg (by omega)]; omega
    · rw [Int.tdiv_eq_ediv_of_nonneg h]; omega
  have hpw := fun v w' (h : W64 w' v (r)) => power_any (mulSpec_all 251 (by omega)) v (r) n w' h (by omega) (by have := hpl (r) (by omega) 1 (by omega); rwa [Nat.pow_one] at this) (fun j hj => hpl (r) (by omega) j hj)
  have hzl := hpl (r) (by omega) n (Nat.le_refl _)
  have hcm := fun v w' (h : W64 w' v ((r) ^ n)) (k : W64 w' a m) => cmp64_call v a _ m w' h k (by omega) (by omega)
  have hcc : cmpN (r ^ n) m ≤ 0 := by
    rcases Nat.lt_or_ge (r ^ n) m with h | h
    · rw [cmpN_lt h]; omega
    · rw [show r ^ n = m from Nat.le_antisymm hr.1 h, cmpN_eq]; omega
  generalize cmpN (r ^ n) m = cc at *
  have HBITS := Lib.hid hbits
  have HLEN := Lib.hid hlen
  have HOWN := Lib.hid hown
  have HSR := Lib.hid hsr
  have HRT := Lib.hid hrt
  have HS1 := Lib.hid hs1
  have HSL := Lib.hid hsl
  have HPW := Lib.hid hpw
  have HCM := Lib.hid hcm
  clear hbits hlen hown hsr hrt hs1 hsl hpw hcm
  have HA := Lib.hid ha
  obtain ⟨sz, hsz⟩ : ∃ sz, nbits m = sz := ⟨_, rfl⟩
  obtain ⟨A, c, rfl, _⟩ := ha
  rw [hsz] at HBITS hdd hdq hD hns hDs hb hnD 
  obtain ⟨sm, hsm⟩ : ∃ sm, sz - 1 = sm := ⟨_, rfl⟩
  rw [hsm] at hdd hdq hD 
  obtain ⟨q, hq⟩ : ∃ q, sm / n = q := ⟨_, rfl⟩
  rw [hq] at hdq hD
  have hD' : (q : Int) + 1 = (D : Int) := by omega
  have hqt : (sm : Int).tdiv (n : Int) = (q : Int) := by rw [Int.tdiv_eq_ediv_of_nonneg (by omega)]; exact hdq
  have hns' : ¬ sz ≤ n := by omega
  clear hsz hsm hq hD hr hr1 hnD hL hpl hbm hLn hrl h1l hz hzl hal hrr hb1 hm1 hm2 hhigh IH hwl hmN hr0 hm0
  generalize (dig B64 m).length = LL at *
  go_enter Try.func53, Try.ntmps53
  go_wp2_with (fail)
  refine (HBITS.out _ HA.out).mono ?_
  rintro e w1 ⟨rfl, rfl⟩
  go_wp2_with (fail)
  refine (HLEN.out _).mono ?_
  rintro e w2 ⟨rfl, rfl⟩
  go_wp2_with (fail)
  refine (HSR.out _ HA.out).mono ?_
  rintro e w3 ⟨v3, rfl, hv3, hb3⟩
  have b3 := below_at (Below.refl _ _) (Nat.le_refl _) hb3
  have ka_3 := HA.out.keep hb3
  have k3_3 := hv3
  go_wp2_with (fail)
  refine (HRT.out _ _ k3_3).mono ?_
  rintro e w4 ⟨v4, rfl, hv4, hb4⟩
  have b4 := below_at b3 (Nat.le_refl _) hb4
  have ka_4 := ka_3.keep hb4
  have k4_4 := hv4
  go_wp2_with (fail)
  refine (HSL.out _ _ k4_4).mono ?_
  rintro e w5 ⟨v5, rfl, hv5, hb5⟩
  have b5 := below_at b4 (Nat.le_refl _) hb5
  have ka_5 := ka_4.keep hb5
  have k5_5 := hv5.is
  go_wp2_with (fail)
  refine (HS1.out _ _ _ (k5_5.keep (below_new _ (.cells #[.int .u64 1] 55))) (HOWN.out _)).mono ?_
  rintro e w6 ⟨v7, rfl, hv7, hb6⟩
  have b6 := below_at (Below.alloc b5 b5.size _) (Nat.le_refl _) hb6
  have ka_6 := (ka_5.keep (below_new _ (.cells #[.int .u64 1] 55))).keep hb6
  have kz_6 := hv7.is
  go_wp2_with (fail)
  refine (HPW.out _ _ kz_6).mono ?_
  rintro e w7 ⟨v8, rfl, hv8, hb7⟩
  have b7 := below_at b6 (Nat.le_refl _) hb7
  have ka_7 := ka_6.keep hb7
  have kz_7 := kz_6.keep hb7
  have k8_7 := hv8.is
  go_wp2_with (fail)
  refine (HCM.out _ _ k8_7 ka_7).mono ?_
  rintro e w8 ⟨rfl, hb8⟩
  have b8 := below_at b7 (Nat.le_refl _) hb8
  have kz_8 := kz_7.keep hb8
  go_wp2
  go_ret
  exact ⟨_, rfl, kz_8, b8⟩

set_option maxHeartbeats 1200000 in
set_option maxRecDepth 100000 in
theorem root_b1 (N : Nat) (IH : ∀ m, m < N → ∀ (n r : Nat) (a : Value) (w : World), W64 w a m → 0 < m → 0 < n → nbits m ≤ 8000 → IsRoot n m r → Calls Try.prog 53 #[a, .int .i64 (n : Int)] w (NumPost w r)) (m n r D L : Nat) (a : Value) (w : World) (hmN : m ≤ N) (ha : W64 w a m) (hr : IsRoot n m r) (hn2 : 2 ≤ n) (hns : n < nbits m) (hb : nbits m ≤ 8000) (hD : (nbits m - 1) / n + 1 = D) (hr1 : 2 ^ (D - 1) ≤ r) (hnD : n * (D - 1) ≤ nbits m - 1) (hD2 : 2 ≤ D) (hDs : D ≤ nbits m) (hL : nbits n = L) (hl : D < L + 2) (hz : r / 2 * 2 + 1 = r + 1) :
    Calls Try.prog 53 #[a, .int .i64 (n : Int)] w (NumPost w r) := by
  have hm0 : 0 < m := by
    rcases Nat.eq_zero_or_pos m with h | h
    · rw [h] at hns; simp [nbits] at hns
    · exact h
  have hr0 : 0 < r := Nat.lt_of_lt_of_le (Nat.two_pow_pos _) hr1
  have hpl := pow_len hr.1 hr0 (Nat.le_of_lt hns) hb
  have hbm := nbits_ge (Nat.pos_iff_ne_zero.1 hm0)
  have hwl : (dig B64 m).length ≤ 125 := len_of_bits (by omega)
  have hLn : n < 2 ^ L := by rw [← hL]; exact nbits_lt n
  have hL64 : L ≤ 13 := by rw [← hL]; exact nbits_le (by omega)
  have hbits := fun w' (h : W64 w' a m) => bits_call a m w' h (by omega)
  have hlen := fun w' => len_nat n w' (by unfold B64; omega)
  rw [hL] at hlen
  have hwn : IntKind.u64.wrap (n : Int) = (n : Int) := by rw [IntKind.wrap_u64]; omega
  have hdd : ((nbits m : Nat) : Int) - 1 = ((nbits m - 1 : Nat) : Int) := by omega
  have hdq : ((nbits m - 1 : Nat) : Int) / (n : Int) = (((nbits m - 1) / n : Nat) : Int) := (Int.natCast_ediv _ _).symm
  have hn0 : ((n : Int) == 0) = false := by simp; omega
  have hn1 : ((n : Int) == 1) = false := by simp; omega
  have hrl : (dig B64 r).length ≤ 251 := by have := hpl r (by omega) 1 (by omega); rwa [Nat.pow_one] at this
  have hown := fun w' => own_v 1 (by omega) (by unfold B64; omega) w'
  have h1l : (dig B64 1).length ≤ 1 := small64 (by unfold B64; omega)
  have hhigh := hr.high 1
  rw [Nat.mul_one, Nat.pow_one] at hhigh
  have hm1 : 0 < m / 2 ^ n := Nat.div_pos (Nat.le_trans (Nat.pow_le_pow_right (by omega) (by omega)) hbm) (Nat.two_pow_pos _)
  have hm2 : m / 2 ^ n < N := Nat.lt_of_lt_of_le (Nat.div_lt_self hm0 (Nat.one_lt_two_pow (by omega))) hmN
  have hb1 : nbits (m / 2 ^ n) ≤ 8000 := Nat.le_trans (nbits_le (Nat.lt_of_le_of_lt (Nat.div_le_self _ _) (nbits_lt m))) hb
  have hsr := fun w' (h : W64 w' a m) => shiftRight_any a m n w' h (by omega) (by omega)
  have hrt := fun v w' (h : W64 w' v (m / 2 ^ n)) => IH _ hm2 n _ v w' h hm1 (by omega) hb1 hhigh
  have hrr : (dig B64 (r / 2)).length ≤ 251 := Nat.le_trans (lenm (Nat.div_le_self _ _)) hrl
  have hsl := fun v w' (h : W64 w' v (r / 2)) => shiftLeft_any v _ 1 w' h (by omega) (by omega)
  rw [Nat.pow_one] at hsl
  have hal : (dig B64 (r / 2 * 2)).length ≤ 251 := Nat.le_trans (lenm (Nat.div_mul_le_self _ _)) hrl
  have hs1 := fun u v w' (h : W64 w' u (r / 2 * 2)) (l : W64 w' v 1) => sum_any u v _ 1 w' h l (by omega) (by omega)
  rw [hz] at hs1
  obtain ⟨sd, hsd⟩ : ∃ sd : Int, (D : Int) - (L : Int) = sd := ⟨_, rfl⟩
  have hsd1 : -13 ≤ sd := by omega
  have hsd2 : sd ≤ 1 := by omega
  obtain ⟨t, ht⟩ : ∃ t : Int, sd.tdiv 2 = t := ⟨_, rfl⟩
  have ht0 : t ≤ 0 := by
    rw [← ht]
    rcases Int.lt_or_le sd 0 with h | h
    · obtain ⟨u, rfl⟩ : ∃ u, sd = -u := ⟨-sd, by omega⟩
      rw [Int.neg_tdiv, Int.tdiv_eq_ediv_of_nonneg (by omega)]; omega
    · rw [Int.tdiv_eq_ediv_of_nonneg h]; omega
  have ht1 : -10 ≤ t := by
    rw [← ht]
    rcases Int.lt_or_le sd 0 with h | h
    · obtain ⟨u, rfl⟩ : ∃ u, sd = -u := ⟨-sd, by omega⟩
      rw [Int.neg_tdiv, Int.tdiv_eq_ediv_of_nonneg (by omega)]; omega
    · rw [Int.tdiv_eq_ediv_of_nonneg h]; omega
  have hpw := fun v w' (h : W64 w' v (r + 1)) => power_any (mulSpec_all 251 (by omega)) v (r + 1) n w' h (by omega) (by have := hpl (r + 1) (by omega) 1 (by omega); rwa [Nat.pow_one] at this) (fun j hj => hpl (r + 1) (by omega) j hj)
  have hzl := hpl (r + 1) (by omega) n (Nat.le_refl _)
  have hcm := fun v w' (h : W64 w' v ((r + 1) ^ n)) (k : W64 w' a m) => cmp64_call v a _ m w' h k (by omega) (by omega)
  have hcc : cmpN ((r + 1) ^ n) m = 1 := cmpN_gt hr.2
  rw [hcc] at hcm
  have hdf := fun u v w' (h : W64 w' u (r + 1)) (k : W64 w' v 1) => diff_any u v (r + 1) 1 w' h k (by have := hpl (r + 1) (by omega) 1 (by omega); rw [Nat.pow_one] at this; omega) (by omega)
  rw [Nat.add_sub_cancel] at hdf
  have HBITS := Lib.hid hbits
  have HLEN := Lib.hid hlen
  have HOWN := Lib.hid hown
  have HSR := Lib.hid hsr
  have HRT := Lib.hid hrt
  have HS1 := Lib.hid hs1
  have HSL := Lib.hid hsl
  have HPW := Lib.hid hpw
  have HCM := Lib.hid hcm
  have HDF := Lib.hid hdf
  clear hbits hlen hown hsr hrt hs1 hsl hpw hcm hdf
  have HA := Lib.hid ha
  obtain ⟨sz, hsz⟩ : ∃ sz, nbits m = sz := ⟨_, rfl⟩
  obtain ⟨A, c, rfl, _⟩ := ha
  rw [hsz] at HBITS hdd hdq hD hns hDs hb hnD 
  obtain ⟨sm, hsm⟩ : ∃ sm, sz - 1 = sm := ⟨_, rfl⟩
  rw [hsm] at hdd hdq hD 
  obtain ⟨q, hq⟩ : ∃ q, sm / n = q := ⟨_, rfl⟩
  rw [hq] at hdq hD
  have hD' : (q : Int) + 1 = (D : Int) := by omega
  have hqt : (sm : Int).tdiv (n : Int) = (q : Int) := by rw [Int.tdiv_eq_ediv_of_nonneg (by omega)]; exact hdq
  have hns' : ¬ sz ≤ n := by omega
  clear hsz hsm hq hD hr hr1 hnD hL hpl hbm hLn hrl h1l hz hzl hal hrr hb1 hm1 hm2 hhigh IH hwl hmN hr0 hm0 hcc
  generalize (dig B64 m).length = LL at *
  go_enter Try.func53, Try.ntmps53
  go_wp2_with (fail)
  refine (HBITS.out _ HA.out).mono ?_
  rintro e w1 ⟨rfl, rfl⟩
  go_wp2_with (fail)
  refine (HLEN.out _).mono ?_
  rintro e w2 ⟨rfl, rfl⟩
  go_wp2_with (fail)
  refine (HSR.out _ HA.out).mono ?_
  rintro e w3 ⟨v3, rfl, hv3, hb3⟩
  have b3 := below_at (Below.refl _ _) (Nat.le_refl _) hb3
  have ka_3 := HA.out.keep hb3
  have k3_3 := hv3
  go_wp2_with (fail)
  refine (HRT.out _ _ k3_3).mono ?_
  rintro e w4 ⟨v4, rfl, hv4, hb4⟩
  have b4 := below_at b3 (Nat.le_refl _) hb4
  have ka_4 := ka_3.keep hb4
  have k4_4 := hv4
  go_wp2_with (fail)
  refine (HSL.out _ _ k4_4).mono ?_
  rintro e w5 ⟨v5, rfl, hv5, hb5⟩
  have b5 := below_at b4 (Nat.le_refl _) hb5
  have ka_5 := ka_4.keep hb5
  have k5_5 := hv5.is
  go_wp2_with (fail)
  refine (HS1.out _ _ _ (k5_5.keep (below_new _ (.cells #[.int .u64 1] 55))) (HOWN.out _)).mono ?_
  rintro e w6 ⟨v7, rfl, hv7, hb6⟩
  have b6 := below_at (Below.alloc b5 b5.size _) (Nat.le_refl _) hb6
  have ka_6 := (ka_5.keep (below_new _ (.cells #[.int .u64 1] 55))).keep hb6
  have kz_6 := hv7.is
  go_wp2_with (fail)
  refine (HPW.out _ _ kz_6).mono ?_
  rintro e w7 ⟨v8, rfl, hv8, hb7⟩
  have b7 := below_at b6 (Nat.le_refl _) hb7
  have ka_7 := ka_6.keep hb7
  have kz_7 := kz_6.keep hb7
  have k8_7 := hv8.is
  go_wp2_with (fail)
  refine (HCM.out _ _ k8_7 ka_7).mono ?_
  rintro e w8 ⟨rfl, hb8⟩
  have b8 := below_at b7 (Nat.le_refl _) hb8
  have kz_8 := kz_7.keep hb8
  go_wp2_with (fail)
  refine (HDF.out _ _ _ (kz_8.keep (below_new _ (.cells #[.int .u64 1] 55))) (HOWN.out _)).mono ?_
  rintro e w9 ⟨v9, rfl, hv9, hb9⟩
  have b9 := below_at (Below.alloc b8 b8.size _) (Nat.le_refl _) hb9
  have k9_9 := hv9.is
  go_wp2
  go_ret
  exact ⟨_, rfl, k9_9, b9⟩

set_option maxHeartbeats 1000000 in
set_option maxRecDepth 100000 in
theorem root_id (a : Value) (m : Nat) (w : World) (ha : W64 w a m) (hb : nbits m ≤ 8000) (h1 : 1 < nbits m) : Calls Try.prog 53 #[a, .int .i64 1] w (NumPost w m) := by
  have hwl : (dig B64 m).length ≤ 125 := len_of_bits (by omega)
  have hbits := bits_call a m w ha (by omega)
  have HB := Lib.hid hbits
  have HA := Lib.hid ha
  obtain ⟨A, c, rfl, _⟩ := ha
  clear hbits
  generalize (dig B64 m).length = LL at *
  generalize nbits m = sz at *
  have h2 : ¬ sz ≤ 1 := by omega
  go_enter Try.func53, Try.ntmps53
  go_wp2_with (go_at_call 75; refine HB.out.mono ?_; rintro e w1 ⟨rfl, rfl⟩)
  go_ret
  exact ⟨_, rfl, HA.out, Below.refl _ _⟩

/-- root: the integer part of the nth root. -/
theorem root_all (N : Nat) : ∀ m, m ≤ N → ∀ (n r : Nat) (a : Value) (w : World), W64 w a m → 0 < m → 0 < n → nbits m ≤ 8000 → IsRoot n m r → Calls Try.prog 53 #[a, .int .i64 (n : Int)] w (NumPost w r) := by
  induction N with
  | zero => intro m h n r a w _ h0; omega
  | succ N ih =>
    intro m hm n r a w ha h0 hn hb hr
    have IH : ∀ m', m' < N + 1 → ∀ (n r : Nat) (a : Value) (w : World), W64 w a m' → 0 < m' → 0 < n → nbits m' ≤ 8000 → IsRoot n m' r → Calls Try.prog 53 #[a, .int .i64 (n : Int)] w (NumPost w r) := fun m' h => ih m' (by omega)
    rcases Nat.lt_or_ge n (nbits m) with hs | hs
    · rcases Nat.lt_or_ge n 2 with h2 | h2
      · obtain rfl : n = 1 := by omega
        have e : r = m := hr.unique ⟨by rw [Nat.pow_one]; exact Nat.le_refl _, by rw [Nat.pow_one]; omega⟩
        rw [e]
        exact root_id a m w ha hb hs
      · obtain ⟨D, hD, k1, _, k3, k4, k5⟩ := root_numbers hr hn hs
        have hr0 : 0 < r := Nat.lt_of_lt_of_le (Nat.two_pow_pos _) k1
        rcases Nat.lt_or_ge D (nbits n + 2) with hl | hl
        · have hz : r / 2 * 2 + 1 = r ∨ r / 2 * 2 + 1 = r + 1 := by omega
          rcases hz with hz | hz
          · exact root_b0 (N + 1) IH m n r D _ a w hm ha hr h2 hs hb hD k1 k3 k4 k5 rfl hl hz
          · exact root_b1 (N + 1) IH m n r D _ a w hm ha hr h2 hs hb hD k1 k3 k4 k5 rfl hl hz
        · obtain ⟨low, hlow⟩ : ∃ low, (D - nbits n) / 2 = low := ⟨_, rfl⟩
          have hLn := nbits_lt n
          obtain ⟨X, hX⟩ : ∃ X, (r / 2 ^ low + 1) * 2 ^ low = X := ⟨_, rfl⟩
          have hy := newton_y (D := D) (L := nbits n) (low := low) (n := n - 1) (r := r) (by omega) (by omega) k1 (by omega) X hX.symm
          have g1 : r ≤ ((n - 1) * X + m / X ^ (n - 1)) / (n - 1 + 1) := newton_ge (by rw [show n - 1 + 1 = n by omega]; exact hr.1) (by omega) (by omega)
          have g2 : ((n - 1) * X + m / X ^ (n - 1)) / (n - 1 + 1) ≤ r + 1 := newton_le (by rw [show n - 1 + 1 = n by omega]; exact hr.2) hy.1 hy.2.2
          rw [show n - 1 + 1 = n by omega] at g1 g2
          have hz : ((n - 1) * X + m / X ^ (n - 1)) / n = r ∨ ((n - 1) * X + m / X ^ (n - 1)) / n = r + 1 := by
            generalize ((n - 1) * X + m / X ^ (n - 1)) / n = z at *
            omega
          rw [← hX] at hz
          rcases hz with hz | hz
          · exact root_a0 (N + 1) IH m n r D _ low a w hm ha hr h2 hs hb hD k1 k3 k4 k5 rfl (by omega) (by omega) (by omega) hz
          · exact root_a1 (N + 1) IH m n r D _ low a w hm ha hr h2 hs hb hD k1 k3 k4 k5 rfl (by omega) (by omega) (by omega) hz
    · have e : r = 1 := hr.unique ⟨by rw [Nat.one_pow]; exact h0, Nat.lt_of_lt_of_le (nbits_lt m) (Nat.pow_le_pow_right (by omega) hs)⟩
      rw [e]
      exact root_one a m n w ha (Nat.le_trans (len_of_bits (k := 125) (by omega)) (by omega)) hs
theorem root_any (a : Value) (m n r : Nat) (w : World) (ha : W64 w a m) (h0 : 0 < m) (hn : 0 < n) (hb : nbits m ≤ 8000) (hr : IsRoot n m r) : Calls Try.prog 53 #[a, .int .i64 (n : Int)] w (NumPost w r) :=
  root_all m m (Nat.le_refl _) n r a w ha h0 hn hb hr
end Go.Proofs.Ythgekjkgfccnaaa

namespace Go.Proofs.Ythgekjkgfccnaaa
open Go.RowKit Num

set_option maxHeartbeats 1000000 in
set_option maxRecDepth 100000 in
theorem root_bad (a : Value) (n : Int) (xs : List Nat) (w : World) (ha : Limbs w a xs) (h0 : chk xs ≠ 0) : Calls Try.prog 32 #[a, .int .i64 n] w (NatErr w (chk xs)) := by
  have hc := checkAll_any w.heap.size 1 1 _ _ (nats1 ha) rfl (by omega)
  rw [chkAll1] at hc
  generalize chk xs = r at *
  have hbA := below_new w (.cells #[a] 48)
  have hq : (r != 0) = true := by simp [h0]
  have HC := Lib.hid hc
  have H0 := Lib.hid h0
  obtain ⟨A, c, rfl, _⟩ := ha
  clear hc h0
  generalize xs.length = L at *
  go_enter Try.func32, Try.ntmps32
  go_wp2_with (go_at_call 47; refine HC.out.mono ?_; rintro e w1 ⟨rfl, rfl⟩)
  go_ret2
  exact ⟨rfl, hbA⟩

set_option maxHeartbeats 1000000 in
set_option maxRecDepth 100000 in
theorem root_arg (a : Value) (m : Nat) (n : Int) (w : World) (ha : N32 w a m) (hl : (dig B32 m).length ≤ 262144) (hn : n < 1) : Calls Try.prog 32 #[a, .int .i64 n] w (NatErr w 1) := by
  have hc := checkAll_any w.heap.size 1 1 _ _ (nats1 (Limbs.num ha (by omega))) rfl (by omega)
  rw [chkAll1, chk_dig hl] at hc
  have hbA := below_new w (.cells #[a] 48)
  have HC := Lib.hid hc
  obtain ⟨A, c, rfl, _⟩ := ha
  clear hc
  generalize (dig B32 m).length = L at *
  go_enter Try.func32, Try.ntmps32
  go_wp2_with (go_at_call 47; refine HC.out.mono ?_; rintro e w1 ⟨rfl, rfl⟩)
  go_ret2
  exact ⟨rfl, hbA⟩

theorem ownL_nil' (B : Nat) (w : World) : OwnL B w (.slice none 0 0) 0 := by
  unfold OwnL
  rw [dig_zero]
  exact ⟨rfl, .inl ⟨rfl, rfl⟩⟩

set_option maxHeartbeats 1000000 in
set_option maxRecDepth 100000 in
theorem root_zero (a : Value) (m : Nat) (n : Int) (w : World) (ha : N32 w a m) (h0 : m = 0) (hn : 1 ≤ n) : Calls Try.prog 32 #[a, .int .i64 n] w (NatOk w 0) := by
  have hl : (dig B32 m).length ≤ 262144 := by rw [h0, dig_zero]; simp
  have hc := checkAll_any w.heap.size 1 1 _ _ (nats1 (Limbs.num ha (by omega))) rfl (by omega)
  rw [chkAll1, chk_dig hl] at hc
  have hbA := below_new w (.cells #[a] 48)
  have HC := Lib.hid hc
  have hz : (dig B32 m).length = 0 := by rw [h0, dig_zero]; rfl
  obtain ⟨A, c, rfl, _⟩ := ha
  rw [hz] at HC hbA ⊢
  clear hc hz h0 hl
  go_enter Try.func32, Try.ntmps32
  go_wp2_with (go_at_call 47; refine HC.out.mono ?_; rintro e w1 ⟨rfl, rfl⟩)
  go_ret2
  exact ⟨_, rfl, ownL_nil' _ _, hbA⟩

set_option maxHeartbeats 1000000 in
set_option maxRecDepth 100000 in
theorem root_ok (a : Value) (m n r : Nat) (w : World) (ha : N32 w a m) (h0 : 0 < m) (hn : 1 ≤ n) (hb : nbits m ≤ 8000) (hr : IsRoot n m r) : Calls Try.prog 32 #[a, .int .i64 (n : Int)] w (NatOk w r) := by
  have hwl : (dig B64 m).length ≤ 125 := len_of_bits (by omega)
  have hl : (dig B32 m).length ≤ 262144 := by
    have : (dig B32 m).length ≤ 250 := dig_len_le b32_two (by
      have g : ∀ K, nbits m ≤ 32 * K → m < B32 ^ K := fun K hK => by
        have e : B32 ^ K = 2 ^ (32 * K) := by rw [Nat.pow_mul]; rfl
        rw [e]; exact lt_of_nbits hK
      exact g 250 (by omega))
    omega
  have hc := checkAll_any w.heap.size 1 1 _ _ (nats1 (Limbs.num ha (by omega))) rfl (by omega)
  rw [chkAll1, chk_dig hl] at hc
  have hbA := below_new w (.cells #[a] 48)
  have HC := Lib.hid hc
  have hf := fromNat_any a m _ (ha.keep hbA) (by omega)
  have hrt := fun v w' (h : W64 w' v m) => root_any v m n r w' h h0 hn hb hr
  have hrm : r ≤ m := Nat.le_trans (Nat.le_self_pow (by omega) r) hr.1
  have hrl : (dig B64 r).length ≤ 125 := Nat.le_trans (lenm hrm) hwl
  have hnt := fun v w' (h : W64 w' v r) => nat_any v r w' h (by omega)
  have hpos : 0 < (dig B32 m).length := by
    rcases Nat.eq_zero_or_pos (dig B32 m).length with h | h
    · have := (dig_nil_iff b32_two).1 (List.eq_nil_of_length_eq_zero h); omega
    · exact h
  have HF := Lib.hid hf
  have HRT := Lib.hid hrt
  have HNT := Lib.hid hnt
  clear hf hrt hnt
  obtain ⟨A, c, rfl, _⟩ := ha
  clear hc hwl hrm hrl hr
  generalize (dig B32 m).length = L at *
  go_enter Try.func32, Try.ntmps32
  go_wp2_with (fail)
  refine (HC.out).mono ?_
  rintro e w1 ⟨rfl, rfl⟩
  go_wp2_with (fail)
  refine (HF.out).mono ?_
  rintro e w2 ⟨v1, rfl, hv1, hb2⟩
  have b2 := below_at hbA (Nat.le_refl _) hb2
  have k1_2 := hv1.is
  go_wp2_with (fail)
  refine (HRT.out _ _ k1_2).mono ?_
  rintro e w3 ⟨v2, rfl, hv2, hb3⟩
  have b3 := below_at b2 (Nat.le_refl _) hb3
  have k2_3 := hv2
  go_wp2_with (fail)
  refine (HNT.out _ _ k2_3).mono ?_
  rintro e w4 ⟨v3, rfl, hv3, hb4⟩
  have b4 := below_at b3 (Nat.le_refl _) hb4
  go_wp2
  go_ret2
  exact ⟨_, rfl, hv3.mono b3.size, b4⟩

/-- The bits of the root from k on are found. -/
def RtSt (m n k r : Nat) : Prop := ∃ q, r = q * 2 ^ k ∧ r ^ n ≤ m ∧ m < (r + 2 ^ k) ^ n
theorem RtSt.step {m n i r : Nat} (h : RtSt m n (i + 1) r) : ((r + 2 ^ i) ^ n ≤ m → RtSt m n i (r + 2 ^ i)) ∧ (m < (r + 2 ^ i) ^ n → RtSt m n i r) := by
  obtain ⟨q, h1, h2, h3⟩ := h
  have e : r + 2 ^ i + 2 ^ i = r + 2 ^ (i + 1) := by rw [Nat.pow_succ]; omega
  refine ⟨fun h4 => ⟨q * 2 + 1, ?_, h4, by rw [e]; exact h3⟩, fun h4 => ⟨q * 2, ?_, h2, h4⟩⟩
  · rw [h1, Nat.pow_succ]; grind
  · rw [h1, Nat.pow_succ]; grind
theorem RtSt.fin {m n r : Nat} (h : RtSt m n 0 r) : IsRoot n m r := by
  obtain ⟨q, _, h2, h3⟩ := h
  exact ⟨h2, by simpa using h3⟩
theorem len32_bits {n k : Nat} (h : nbits n ≤ 32 * k) : (dig B32 n).length ≤ k := dig_len_le b32_two (by
  have e : B32 ^ k = 2 ^ (32 * k) := by rw [Nat.pow_mul]; rfl
  rw [e]; exact lt_of_nbits h)
theorem n32_empty (w : World) : N32 (w.alloc (.cells #[] 101)) (.slice (some ⟨w.heap.size, 0, none⟩) 0 0) 0 := by
  refine ⟨some ⟨w.heap.size, 0, none⟩, 0, ?_, ?_, ?_⟩ <;> rw [dig_zero]
  · rfl
  · exact Nat.le_refl _
  · exact Nums.nil

end Go.Proofs.Ythgekjkgfccnaaa

namespace Go.Proofs.Ythgekjkgfccnaaa
open Go.RowKit Num

set_option maxHeartbeats 1000000 in
set_option maxRecDepth 100000 in
theorem divMod_bad (a b : Value) (xs ys : List Nat) (w : World) (ha : Limbs w a xs) (hb : Limbs w b ys) (h0 : chk2 xs ys ≠ 0) : Calls Try.prog 29 #[a, b] w fun e w' => e = .returned (.tuple #[.slice none 0 0, .slice none 0 0, .int .i64 (chk2 xs ys)]) ∧ Below w.heap.size w w' := by
  have hc := checkAll_any w.heap.size 2 2 _ _ (nats2 ha hb) rfl (by omega)
  rw [chkAll2] at hc
  generalize chk2 xs ys = r at *
  have hbA := below_new w (.cells #[a, b] 48)
  have hq : (r != 0) = true := by simp [h0]
  have HC := Lib.hid hc
  have H0 := Lib.hid h0
  obtain ⟨A, c, rfl, _⟩ := ha
  obtain ⟨A', c', rfl, _⟩ := hb
  clear hc h0
  generalize xs.length = L at *
  generalize ys.length = L' at *
  go_enter Try.func29, Try.ntmps29
  go_wp2_with (go_at_call 47; refine HC.out.mono ?_; rintro e w1 ⟨rfl, rfl⟩)
  go_ret3
  exact ⟨rfl, hbA⟩

set_option maxHeartbeats 1000000 in
set_option maxRecDepth 100000 in
theorem divMod_zero (a b : Value) (m n : Nat) (w : World) (ha : N32 w a m) (hb : N32 w b n) (hm : (dig B32 m).length ≤ 262144) (hn : (dig B32 n).length ≤ 262144) (h0 : n = 0) : Calls Try.prog 29 #[a, b] w fun e w' => e = .returned (.tuple #[.slice none 0 0, .slice none 0 0, .int .i64 4]) ∧ Below w.heap.size w w' := by
  have hc := checkAll_any w.heap.size 2 2 _ _ (nats2 (Limbs.num ha (by omega)) (Limbs.num hb (by omega))) rfl (by omega)
  rw [chkAll2, chk2, if_pos (chk_dig hm), chk_dig hn] at hc
  have hbA := below_new w (.cells #[a, b] 48)
  have HC := Lib.hid hc
  have hz : (dig B32 n).length = 0 := by rw [h0, dig_zero]; rfl
  obtain ⟨A, c, rfl, _⟩ := ha
  obtain ⟨A', c', rfl, _⟩ := hb
  clear hc h0
  rw [hz] at HC hbA ⊢
  clear hz hn
  generalize (dig B32 m).length = L at *
  go_enter Try.func29, Try.ntmps29
  go_wp2_with (go_at_call 47; refine HC.out.mono ?_; rintro e w1 ⟨rfl, rfl⟩)
  go_ret3
  exact ⟨rfl, hbA⟩

/-- Quotient and remainder come back, both of the call's own. -/
def DivNat (w : World) (q r : Nat) (e : Ending) (w' : World) : Prop := ∃ v u, e = .returned (.tuple #[v, u, .int .i64 0]) ∧ OwnL w.heap.size w' v q ∧ OwnL w.heap.size w' u r ∧ Below w.heap.size w w'

set_option maxHeartbeats 2000000 in
set_option maxRecDepth 100000 in
theorem divMod_ok (a b : Value) (m n : Nat) (w : World) (ha : N32 w a m) (hb : N32 w b n) (hm : (dig B32 m).length ≤ 262144) (hn : (dig B32 n).length ≤ 262144) (h0 : 0 < n) (hs : (dig B64 n).length < 200 ∨ (dig B64 m).length < 199 + (dig B64 n).length) : Calls Try.prog 29 #[a, b] w (DivNat w (m / n) (m % n)) := by
  have hc := checkAll_any w.heap.size 2 2 _ _ (nats2 (Limbs.num ha (by omega)) (Limbs.num hb (by omega))) rfl (by omega)
  rw [chkAll2, chk2, if_pos (chk_dig hm), chk_dig hn] at hc
  have hbA := below_new w (.cells #[a, b] 48)
  have HC := Lib.hid hc
  have ha1 := ha.keep hbA
  have hb1 := hb.keep hbA
  have hf1 := fun w' (h : N32 w' a m) => fromNat_any a m w' h (by omega)
  have hf2 := fun w' (h : N32 w' b n) => fromNat_any b n w' h (by omega)
  have lm := words_le (n := m) (K := 131072) hm
  have ln := words_le (n := n) (K := 131072) hn
  have hdv := fun v u w' (h : W64 w' v m) (k : W64 w' u n) => divide_any v u m n w' h k h0 (by omega) (by omega) hs
  have hlq : (dig B64 (m / n)).length ≤ 131072 := Nat.le_trans (lenm (Nat.div_le_self _ _)) lm
  have hlr : (dig B64 (m % n)).length ≤ 131072 := Nat.le_trans (lenm (Nat.mod_le _ _)) lm
  have hn1 := fun v w' (h : W64 w' v (m / n)) => nat_any v _ w' h (by omega)
  have hn2 := fun v w' (h : W64 w' v (m % n)) => nat_any v _ w' h (by omega)
  have hpos : 0 < (dig B32 n).length := by
    rcases Nat.eq_zero_or_pos (dig B32 n).length with h | h
    · have := (dig_nil_iff b32_two).1 (List.eq_nil_of_length_eq_zero h); omega
    · exact h
  have HA1 := Lib.hid ha1
  have HB1 := Lib.hid hb1
  have HF1 := Lib.hid hf1
  have HF2 := Lib.hid hf2
  have HDV := Lib.hid hdv
  have HN1 := Lib.hid hn1
  have HN2 := Lib.hid hn2
  clear ha1 hb1 hf1 hf2 hdv hn1 hn2
  obtain ⟨A, c, rfl, _⟩ := ha
  obtain ⟨A', c', rfl, _⟩ := hb
  clear hc lm ln hlq hlr hs
  generalize (dig B32 m).length = L at *
  generalize (dig B32 n).length = L' at *
  go_enter Try.func29, Try.ntmps29
  go_wp2_with (fail)
  refine (HC.out).mono ?_
  rintro e w1 ⟨rfl, rfl⟩
  go_wp2_with (fail)
  refine (HF1.out _ HA1.out).mono ?_
  rintro e w2 ⟨v1, rfl, hv1, hb2⟩
  have b2 := below_at hbA (Nat.le_refl _) hb2
  have kb_2 := HB1.out.keep hb2
  have k1_2 := hv1.is
  go_wp2_with (fail)
  refine (HF2.out _ kb_2).mono ?_
  rintro e w3 ⟨v2, rfl, hv2, hb3⟩
  have b3 := below_at b2 (Nat.le_refl _) hb3
  have k1_3 := k1_2.keep hb3
  have k2_3 := hv2.is
  go_wp2_with (fail)
  refine (HDV.out _ _ _ k1_3 k2_3).mono ?_
  rintro e w4 ⟨q, r, rfl, hq, hr, hb4⟩
  have b4 := below_at b3 (Nat.le_refl _) hb4
  have kq_4 := hq
  have kr_4 := hr
  go_wp2_with (fail)
  refine (HN1.out _ _ kq_4).mono ?_
  rintro e w5 ⟨v4, rfl, hv4, hb5⟩
  have b5 := below_at b4 (Nat.le_refl _) hb5
  have kr_5 := kr_4.keep hb5
  go_wp2_with (fail)
  refine (HN2.out _ _ kr_5).mono ?_
  rintro e w6 ⟨v5, rfl, hv5, hb6⟩
  have b6 := below_at b5 (Nat.le_refl _) hb6
  go_wp2
  go_ret3
  exact ⟨_, _, rfl, (hv4.keep hb6).mono b4.size, hv5.mono b5.size, b6⟩

end Go.Proofs.Ythgekjkgfccnaaa
