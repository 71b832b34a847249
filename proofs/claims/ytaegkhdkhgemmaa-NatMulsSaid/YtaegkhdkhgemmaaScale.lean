import Derived.Test.YtaegkhdkhgemmaaSum
import Derived.Test.YtaegkhdkhgemmaaMulW
namespace Go.Proofs.Ytaegkhdkhgemmaa
open Go.RowKit Num

/-- A sum of words that fits a word. -/
theorem wrap_in (a b : Nat) (h : a + b < B64) : IntKind.u64.wrap ((a : Int) + (b : Int)) = ((a + b : Nat) : Int) := by
  rw [IntKind.wrap_u64]; unfold B64 at h; omega
theorem wrap_ex (a b : Nat) (h : a + b < B64) : ∃ s : Nat, IntKind.u64.wrap ((a : Int) + (b : Int)) = (s : Int) ∧ s = a + b := ⟨_, wrap_in a b h, rfl⟩

/-- One step of a scaled sum: what the calls give. -/
theorem scale_ex (v x m c : Nat) (hv : v < B64) (hx : x < B64) (hm : m < B64) (hc : c < B64) : ∃ hi lo low c1 h2 lo2 c2 over : Nat,
    (∀ w, Calls Try.prog 121 #[.int .u64 (x : Int), .int .u64 (m : Int)] w fun e w' => e = .returned (.tuple #[.int .u64 (hi : Int), .int .u64 (lo : Int)]) ∧ w = w') ∧
    (∀ w, (callFunc 122 #[.int .u64 (lo : Int), .int .u64 (v : Int), .int .u64 0]).run Try.prog w = .ok (.value (.tuple #[.int .u64 (low : Int), .int .u64 (c1 : Int)])) w) ∧
    IntKind.u64.wrap ((hi : Int) + (c1 : Int)) = (h2 : Int) ∧
    (∀ w, (callFunc 122 #[.int .u64 (low : Int), .int .u64 (c : Int), .int .u64 0]).run Try.prog w = .ok (.value (.tuple #[.int .u64 (lo2 : Int), .int .u64 (c2 : Int)])) w) ∧
    IntKind.u64.wrap ((h2 : Int) + (c2 : Int)) = (over : Int) ∧
    lo2 + B64 * over = v + x * m + c ∧ lo2 < B64 ∧ over < B64 := by
  obtain ⟨hi, lo, h1, e1, l1, g1⟩ := mul64_ex x m hx hm
  obtain ⟨low, c1, h2, e2, l2, g2⟩ := add64_ex0 lo v l1 hv
  obtain ⟨lo2, c2, h3, e3, l3, g3⟩ := add64_ex0 low c l2 hc
  have e : lo2 + B64 * (hi + c1 + c2) = v + x * m + c := by
    rw [Nat.mul_add, Nat.mul_add]; omega
  have hb := word_bound hv hx hm hc e
  exact ⟨hi, lo, low, c1, hi + c1, lo2, c2, hi + c1 + c2, h1, h2, wrap_in _ _ (by omega), h3, wrap_in _ _ hb, e, l3, hb⟩

def ScalePost (zs xs : List Nat) (m g off : Nat) (w : World) (e : Ending) (w' : World) : Prop :=
  ∃ zs' c, e = .returned (.int .u64 ((c : Nat) : Int)) ∧ ScaleSt B64 zs xs m off xs.length zs' c ∧ Row .u64 24 w' g zs' ∧ w.grownBy w' (some g)

set_option maxHeartbeats 1000000 in
set_option maxRecDepth 100000 in
theorem addScaled_any (g off n c d L m : Nat) (zs xs : List Nat) (A : Option Addr) (w : World) (hr : Row .u64 24 w g zs) (hz : Low B64 zs) (hA : Nums .u64 w A xs) (hx : Low B64 xs)
    (hAg : 0 < xs.length → ∀ a, A = some a → a.block ≠ g) (hL : L = xs.length) (hn : off + L ≤ zs.length) (hm : m < B64) (hle : L ≤ n) (hnc : n ≤ c) (hbig : n ≤ 1000000000000) :
    Calls Try.prog 138 #[.slice (some ⟨g, off, none⟩) n c, .slice A L d, .int .u64 (m : Int)] w (ScalePost zs xs m g off w) := by
  have HL := Lib.hid hL
  clear hL
  go_enter Try.func138, Try.ntmps138
  go_wp2
  go_loopw [7, 20] (fun q t wr => ∃ (k ov : Nat) (zs' : List Nat), k ≤ L ∧ q = .int .u64 (ov : Int) ∧ t = .int .i64 (k : Int) ∧ ScaleSt B64 zs xs m off k zs' ov ∧ Row .u64 24 wr g zs' ∧ w.grownBy wr (some g)) (fun _ t _ => L - (intOf t).toNat)
  case atStart => exact ⟨0, 0, zs, Nat.zero_le _, rfl, rfl, ScaleSt.start b64_two hz, hr, World.grownBy.refl w _⟩
  case round =>
    obtain ⟨k, ov, zs', hk, rfl, rfl, hst, hrow, hgr⟩ := hrel
    by_cases hlt : k < L
    · obtain ⟨q, qo, x, rfl, hq, hxk, hcx⟩ := (hA.grown hAg hgr).at_ (i := k) (by have := HL.out; omega)
      obtain ⟨v, hv⟩ : ∃ v, zs'[off + k]? = some v := ⟨zs'[off + k]'(by have := hst.len; omega), List.getElem?_eq_getElem _⟩
      have hcv := hrow.cell hv
      have hfv := hrow.frozen (off + k)
      have hvl : v < B64 := by have := hst.low v (List.mem_of_getElem? hv); exact this
      have hxl : x < B64 := hx x (List.mem_of_getElem? hxk)
      obtain ⟨hi, lo, low, c1, h2, lo2, c2, over, e1, e2, e3, e4, e5, e6, hlo, hov⟩ := scale_ex v x m ov hvl hxl hm hst.le
      have hst' := hst.step hv hxk e6 hlo hov
      have hrow' := hrow.set (off + k) lo2
      have HE := Lib.hid e6
      have HV := Lib.hid hv
      have HX := Lib.hid hxk
      have H1 := Lib.hid e1
      clear e6 hv hxk hA hvl hxl hlo hov e1
      go_wp2_with (go_at_call 121; refine (H1.out _).mono ?_; rintro e w' ⟨rfl, rfl⟩)
      go_roundw
      case rel => exact ⟨k + 1, over, _, by omega, rfl, by go_num, hst', hrow', grown_set hgr _ _⟩
      case measure => simp [intOf]; omega
    · have hkL : k = L := by omega
      subst hkL
      clear hlt
      go_wp2
      go_ret
      exact ⟨zs', ov, rfl, by rw [← HL.out]; exact hst, hrow, hgr⟩
end Go.Proofs.Ytaegkhdkhgemmaa
