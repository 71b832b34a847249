/- Part of the proof of MatchVoices. -/
import Derived.Test.YtncmfjncdhhjoaaRows
import Derived.Lib.Strings
import Derived.Lib.Slices
import Derived.Lib.Small
import Derived.Lib.Walk
import Derived.Lib.BitFns
namespace Go.Proofs.Ytncmfjncdhhjoaa
theorem len_fin (x y K : Int) (k p : Nat) (hp : p = 2 ^ k) (h0 : 0 ≤ x) (h1 : x ≤ 18446744073709551615) (hK : K = (k : Int)) (hk' : k ≤ 56) (y0 : 0 ≤ y) (y1 : y ≤ 255) (hk : p ≤ x.toNat) (hy : y.toNat = x.toNat / p) :
    (K + ((Lib.len8 y + 9223372036854775808) % 18446744073709551616 - 9223372036854775808) + 9223372036854775808) % 18446744073709551616 - 9223372036854775808 = (Lib.bitLen x.toNat : Int) := by
  have hl := Lib.bitLen_le8' y y0 y1
  have h2 : 2 ^ k ≤ x.toNat := by rw [← hp]; exact hk
  have h3 : x.toNat < 2 ^ 64 := by omega
  have hb := Lib.bitLen_shift k x.toNat h2 h3
  have hb' : Lib.bitLen x.toNat = k + Lib.bitLen y.toNat := by rw [hy, hp]; exact hb
  rw [Lib.len8_of y y0 y1]
  clear hb h2 h3 hy hk hp
  generalize Lib.bitLen x.toNat = m at *
  generalize Lib.bitLen y.toNat = n at *
  omega

theorem len_fin56 (x y K : Int) (h0 : 0 ≤ x) (h1 : x ≤ 18446744073709551615) (hK : K = 56) (y0 : 0 ≤ y) (y1 : y ≤ 255) (hk : 72057594037927936 ≤ x) (hy : y = x / 72057594037927936) :
    (K + ((Lib.len8 y + 9223372036854775808) % 18446744073709551616 - 9223372036854775808) + 9223372036854775808) % 18446744073709551616 - 9223372036854775808 = (Lib.bitLen x.toNat : Int) :=
  len_fin x y K 56 72057594037927936 (by omega) h0 h1 hK (by omega) y0 y1 (by omega) (by omega)
theorem len_fin48 (x y K : Int) (h0 : 0 ≤ x) (h1 : x ≤ 18446744073709551615) (hK : K = 48) (y0 : 0 ≤ y) (y1 : y ≤ 255) (hk : 281474976710656 ≤ x) (hy : y = x / 281474976710656) :
    (K + ((Lib.len8 y + 9223372036854775808) % 18446744073709551616 - 9223372036854775808) + 9223372036854775808) % 18446744073709551616 - 9223372036854775808 = (Lib.bitLen x.toNat : Int) :=
  len_fin x y K 48 281474976710656 (by omega) h0 h1 hK (by omega) y0 y1 (by omega) (by omega)
theorem len_fin40 (x y K : Int) (h0 : 0 ≤ x) (h1 : x ≤ 18446744073709551615) (hK : K = 40) (y0 : 0 ≤ y) (y1 : y ≤ 255) (hk : 1099511627776 ≤ x) (hy : y = x / 1099511627776) :
    (K + ((Lib.len8 y + 9223372036854775808) % 18446744073709551616 - 9223372036854775808) + 9223372036854775808) % 18446744073709551616 - 9223372036854775808 = (Lib.bitLen x.toNat : Int) :=
  len_fin x y K 40 1099511627776 (by omega) h0 h1 hK (by omega) y0 y1 (by omega) (by omega)
theorem len_fin32 (x y K : Int) (h0 : 0 ≤ x) (h1 : x ≤ 18446744073709551615) (hK : K = 32) (y0 : 0 ≤ y) (y1 : y ≤ 255) (hk : 4294967296 ≤ x) (hy : y = x / 4294967296) :
    (K + ((Lib.len8 y + 9223372036854775808) % 18446744073709551616 - 9223372036854775808) + 9223372036854775808) % 18446744073709551616 - 9223372036854775808 = (Lib.bitLen x.toNat : Int) :=
  len_fin x y K 32 4294967296 (by omega) h0 h1 hK (by omega) y0 y1 (by omega) (by omega)
theorem len_fin24 (x y K : Int) (h0 : 0 ≤ x) (h1 : x ≤ 18446744073709551615) (hK : K = 24) (y0 : 0 ≤ y) (y1 : y ≤ 255) (hk : 16777216 ≤ x) (hy : y = x / 16777216) :
    (K + ((Lib.len8 y + 9223372036854775808) % 18446744073709551616 - 9223372036854775808) + 9223372036854775808) % 18446744073709551616 - 9223372036854775808 = (Lib.bitLen x.toNat : Int) :=
  len_fin x y K 24 16777216 (by omega) h0 h1 hK (by omega) y0 y1 (by omega) (by omega)
theorem len_fin16 (x y K : Int) (h0 : 0 ≤ x) (h1 : x ≤ 18446744073709551615) (hK : K = 16) (y0 : 0 ≤ y) (y1 : y ≤ 255) (hk : 65536 ≤ x) (hy : y = x / 65536) :
    (K + ((Lib.len8 y + 9223372036854775808) % 18446744073709551616 - 9223372036854775808) + 9223372036854775808) % 18446744073709551616 - 9223372036854775808 = (Lib.bitLen x.toNat : Int) :=
  len_fin x y K 16 65536 (by omega) h0 h1 hK (by omega) y0 y1 (by omega) (by omega)
theorem len_fin8 (x y K : Int) (h0 : 0 ≤ x) (h1 : x ≤ 18446744073709551615) (hK : K = 8) (y0 : 0 ≤ y) (y1 : y ≤ 255) (hk : 256 ≤ x) (hy : y = x / 256) :
    (K + ((Lib.len8 y + 9223372036854775808) % 18446744073709551616 - 9223372036854775808) + 9223372036854775808) % 18446744073709551616 - 9223372036854775808 = (Lib.bitLen x.toNat : Int) :=
  len_fin x y K 8 256 (by omega) h0 h1 hK (by omega) y0 y1 (by omega) (by omega)
set_option maxHeartbeats 4000000 in
set_option maxRecDepth 100000 in
theorem len64_int (x : Int) (w : World) (h0 : 0 ≤ x) (h1 : x ≤ 18446744073709551615) :
    Calls Try.prog 93 #[.int .u64 x] w fun e w' => e = .returned (.int .i64 (Lib.bitLen x.toNat)) ∧ w = w' := by
  go_enter Try.func93, Try.ntmps93
  go_wp2
  all_goals (go_ret; refine ⟨congrArg Ending.returned (congrArg (Value.int IntKind.i64) ?_), rfl⟩)
  · refine len_fin56 x _ _ h0 h1 rfl ?_ ?_ ?_ ?_ <;> omega
  · refine len_fin48 x _ _ h0 h1 rfl ?_ ?_ ?_ ?_ <;> omega
  · refine len_fin40 x _ _ h0 h1 rfl ?_ ?_ ?_ ?_ <;> omega
  · refine len_fin32 x _ _ h0 h1 rfl ?_ ?_ ?_ ?_ <;> omega
  · refine len_fin24 x _ _ h0 h1 rfl ?_ ?_ ?_ ?_ <;> omega
  · refine len_fin16 x _ _ h0 h1 rfl ?_ ?_ ?_ ?_ <;> omega
  · refine len_fin8 x _ _ h0 h1 rfl ?_ ?_ ?_ ?_ <;> omega
  · have hl := Lib.bitLen_le8' (x % 256) (by omega) (by omega)
    have e : (x % 256).toNat = x.toNat := by omega
    rw [Lib.len8_of (x % 256) (by omega) (by omega), e]
    rw [e] at hl
    omega
end Go.Proofs.Ytncmfjncdhhjoaa
