import Derived.Test.YtaegkhdkhgemmaaSum
namespace Go.Proofs.Ytaegkhdkhgemmaa
open Go.RowKit Num

/-- z[off ..] without x: what subFrom leaves. -/
def SubPost (zs xs : List Nat) (g off n : Nat) (w : World) (e : Ending) (w' : World) : Prop :=
  ∃ zs' c, e = .returned (.tuple #[]) ∧ SubSt B64 zs xs off n zs' c ∧ Row .u64 24 w' g zs' ∧ w.grownBy w' (some g)

set_option maxHeartbeats 1000000 in
theorem subFrom_any (g off n c d L : Nat) (zs xs : List Nat) (A : Option Addr) (w : World) (hr : Row .u64 24 w g zs) (hz : Low B64 zs) (hn : off + n ≤ zs.length) (hA : Nums .u64 w A xs) (hx : Low B64 xs)
    (hAg : 0 < xs.length → ∀ a, A = some a → a.block ≠ g) (hL : L = xs.length) (hle : L ≤ n) (hbig : n ≤ 1000000000000) :
    Calls Try.prog 109 #[.slice (some ⟨g, off, none⟩) n c, .slice A L d] w (SubPost zs xs g off n w) := by
  have HL := Lib.hid hL
  clear hL
  go_enter Try.func109, Try.ntmps109
  go_wp2
  go_loopw [4, 10] (fun q t wr => ∃ (k cy : Nat) (zs' : List Nat), k ≤ L ∧ q = .int .u64 (cy : Int) ∧ t = .int .i64 (k : Int) ∧ SubSt B64 zs xs off k zs' cy ∧ Row .u64 24 wr g zs' ∧ w.grownBy wr (some g)) (fun _ t _ => L - (intOf t).toNat)
  case atStart => exact ⟨0, 0, zs, Nat.zero_le _, rfl, rfl, SubSt.start hz, hr, World.grownBy.refl w _⟩
  case round =>
    obtain ⟨k, cy, zs', hk, rfl, rfl, hst, hrow, hgr⟩ := hrel
    by_cases hlt : k < L
    · obtain ⟨q, qo, x, rfl, hq, hxk, hcx⟩ := (hA.grown hAg hgr).at_ (i := k) (by have := HL.out; omega)
      obtain ⟨v, hv⟩ : ∃ v, zs'[off + k]? = some v := ⟨zs'[off + k]'(by have := hst.len; omega), List.getElem?_eq_getElem _⟩
      have hcv := hrow.cell hv
      have hfv := hrow.frozen (off + k)
      have hvl : v < B64 := by have := hst.low v (List.mem_of_getElem? hv); exact this
      have hxl : x < B64 := hx x (List.mem_of_getElem? hxk)
      obtain ⟨lo, hi, hsub, he, hlo, hhi⟩ := sub64_ex v x cy hvl hxl hst.le
      have hst' := hst.step hv (x := x) (by simp [List.getD_eq_getElem?_getD, hxk]) he hlo hhi
      have hrow' := hrow.set (off + k) lo
      have HE := Lib.hid he
      have HV := Lib.hid hv
      have HX := Lib.hid hxk
      clear he hv hxk hA hvl hxl hlo
      go_wp2
      go_roundw
      case rel => exact ⟨k + 1, hi, _, by omega, rfl, by go_num, hst', hrow', grown_set hgr _ _⟩
      case measure => simp [intOf]; omega
    · have hkL : k = L := by omega
      subst hkL
      clear hlt
      have hxL : xs.length ≤ k := by have := HL.out; omega
      clear hA
      go_wp2
      go_loopw [4, 7] (fun q t wr => ∃ (j cy : Nat) (zs' : List Nat), k ≤ j ∧ j ≤ n ∧ q = .int .u64 (cy : Int) ∧ t = .int .i64 (j : Int) ∧ SubSt B64 zs xs off j zs' cy ∧ Row .u64 24 wr g zs' ∧ w.grownBy wr (some g)) (fun _ t _ => n - (intOf t).toNat)
      case atStart => exact ⟨k, cy, zs', Nat.le_refl _, hle, rfl, rfl, hst, hrow, hgr⟩
      case round =>
        clear hst hrow hgr
        obtain ⟨j, cy, zs', hkj, hjn, rfl, rfl, hst, hrow, hgr⟩ := hrel
        have hcle := hst.le
        by_cases hc0 : cy = 0
        · have hq : ((cy : Int) != 0) = false := by simp [hc0]
          have H0 := Lib.hid hc0
          clear hc0
          go_wp2
          go_end0
          exact ⟨zs', cy, rfl, by have h0 := H0.out; subst h0; exact hst.rest hjn (by omega) hn, hrow, hgr⟩
        · have hq : ((cy : Int) != 0) = true := by simp; omega
          clear hc0
          by_cases hjl : j < n
          · obtain ⟨v, hv⟩ : ∃ v, zs'[off + j]? = some v := ⟨zs'[off + j]'(by have := hst.len; omega), List.getElem?_eq_getElem _⟩
            have hcv := hrow.cell hv
            have hfv := hrow.frozen (off + j)
            have hvl : v < B64 := by have := hst.low v (List.mem_of_getElem? hv); exact this
            obtain ⟨lo, hi, hsub, he, hlo, hhi⟩ := sub64_exm v cy hvl hcle
            have hx0 : xs.getD j 0 = 0 := by simp [List.getD_eq_getElem?_getD, List.getElem?_eq_none (show xs.length ≤ j by omega)]
            have hst' := hst.step hv (x := 0) hx0 (by omega) hlo hhi
            have hrow' := hrow.set (off + j) lo
            have HE := Lib.hid he
            have HV := Lib.hid hv
            clear he hv hvl hlo hx0
            go_wp2
            go_roundw
            case rel => exact ⟨j + 1, hi, _, by omega, by omega, rfl, by go_num, hst', hrow', grown_set hgr _ _⟩
            case measure => simp [intOf]; omega
          · have hjn' : j = n := by omega
            subst hjn'
            go_wp2
            go_end0
            exact ⟨zs', cy, rfl, hst, hrow, hgr⟩

theorem sub_fin {b L c : Nat} {xs ys zs' : List Nat} (hb : 2 ≤ b) (hL : xs.length = L) (hL' : ys.length ≤ L) (hy : Low b ys) (hle : val b ys ≤ val b xs)
    (h : SubSt b (lay (List.replicate L 0) 0 xs) ys 0 L zs' c) : val b zs' = val b xs - val b ys := by
  have hlen : (lay (List.replicate L 0) 0 xs).length = L := by rw [lay_len (by simp; omega)]; simp
  have e := h.eq
  have l' : zs'.length = L := h.len.trans hlen
  rw [seg0 l', seg0 hlen, val_lay0, List.take_of_length_le (by omega)] at e
  have h1 := val_lt b zs' h.low
  rw [l'] at h1
  have h5 : c = 0 := by
    rcases Nat.eq_zero_or_pos c with h0 | h0
    · exact h0
    · have : b ^ L * 1 ≤ b ^ L * c := Nat.mul_le_mul_left _ h0
      have h2 := val_lt b ys hy
      have h3 : b ^ ys.length ≤ b ^ L := Nat.pow_le_pow_right (by omega) hL'
      omega
  subst h5
  simp at e
  omega

set_option maxHeartbeats 1000000 in
set_option maxRecDepth 100000 in
theorem diff_core (A A' : Option Addr) (c c' L L' : Nat) (xs ys : List Nat) (w : World) (hA : Nums .u64 w A xs) (hA' : Nums .u64 w A' ys) (hx : Low B64 xs) (hy : Low B64 ys)
    (hL : L = xs.length) (hL' : L' = ys.length) (hle : L' ≤ L) (hbig : L ≤ 100000000000) (hval : val B64 ys ≤ val B64 xs) :
    Calls Try.prog 84 #[.slice A L c, .slice A' L' c'] w (SumPost w (val B64 xs - val B64 ys)) := by
  have hmk := make64 L (by omega)
  have hr0 := Row.made w .u64 L 24
  have hbA : Below w.heap.size w (w.alloc (.cells (madeCells #[.int .u64 0] L) 24)) := (Below.refl _ _).alloc (Nat.le_refl _) _
  have hA0 := hA.keep hbA
  have hlow0 : Low B64 (lay (List.replicate L 0) 0 xs) := lay_low (Low.replicate b64_pos _) hx
  have hlen0 : (lay (List.replicate L 0) 0 xs).length = L := by rw [lay_len (by simp; omega)]; simp
  have hne : 0 < ys.length → ∀ a, A' = some a → a.block ≠ w.heap.size := nums_ne hA' (Nat.le_refl _)
  have hlen1 : 0 + L ≤ (lay (List.replicate L 0) 0 xs).length := by rw [hlen0]; omega
  have HL := Lib.hid hL
  have HL' := Lib.hid hL'
  have HN := Lib.hid hlen0
  have HNE := Lib.hid hne
  have HR0 := Lib.hid hr0
  have HV := Lib.hid hval
  clear hL hL' hlen0 hne hr0 hval
  go_enter Try.func84, Try.ntmps84
  go_wp2_with (first
    | (refine wpList_copy_row rfl (.tmp 9) (.tmp 10) rfl _ _ _ _ _ _ rfl rfl _ 0 _ _ HR0.out hA0 HL.out (by omega) (fun _ => rfl) (by simp) ?_
       intro w1 hr1 hg1
       have hb1 : Below w.heap.size w w1 := hbA.grown hg1 hbA.size (by simp))
    | (go_at_call 109
       refine (subFrom_any w.heap.size 0 L L c' L' _ ys A' _ (by assumption) hlow0 hlen1 (hA'.keep (by assumption)) hy HNE.out HL'.out (by omega) (by omega)).mono ?_
       rintro e w2 ⟨zs', cy, rfl, hst, hr2, hg2⟩
       have hb2 : Below w.heap.size w w2 := hb1.grown hg2 hb1.size (by simp)
       have hl2 : zs'.length = L := hst.len.trans HN.out
       have hn2 : Nums .u64 w2 (some ⟨w.heap.size, 0, none⟩) zs' := by have := hr2.nums0 zs'.length; rwa [List.take_length] at this
       have HL2 := Lib.hid hl2
       clear hl2)
    | (go_at_call 78
       refine (trim_any _ L L zs' _ (by assumption) hst.low HL2.out.symm (Nat.le_refl _) (by omega)).mono ?_
       rintro e w3 ⟨rfl, rfl⟩))
  go_ret
  have hv := sub_fin b64_two HL.out.symm (by rw [← HL'.out]; exact hle) hy HV.out hst
  rw [← hv]
  refine ⟨_, rfl, ?_, hb2⟩
  have := own_of_trim b64_two hr2 hst.low (Nat.le_refl w.heap.size)
  rw [HL2.out] at this
  exact this

/-- difference, of two numbers. -/
theorem diff_any (a b : Value) (m n : Nat) (w : World) (ha : W64 w a m) (hb : W64 w b n) (hm : (dig B64 m).length ≤ 100000000000) (hle : n ≤ m) :
    Calls Try.prog 84 #[a, b] w (SumPost w (m - n)) := by
  obtain ⟨A, c, rfl, _, hA⟩ := ha
  obtain ⟨A', c', rfl, _, hA'⟩ := hb
  have em := val_dig b64_two m
  have en := val_dig b64_two n
  have hlen : (dig B64 n).length ≤ (dig B64 m).length := dig_len_le b64_two (Nat.lt_of_le_of_lt hle (dig_len_lt b64_two))
  have := diff_core A A' c c' _ _ _ _ w hA hA' (dig_low64 m) (dig_low64 n) rfl rfl hlen hm (by rw [em, en]; exact hle)
  rw [em, en] at this
  exact this

end Go.Proofs.Ytaegkhdkhgemmaa
