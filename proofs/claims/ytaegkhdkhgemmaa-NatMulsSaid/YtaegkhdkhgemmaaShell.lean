/- A slice of limbs that came in, as the frame of a law's proof tells of it, reads as numbers. -/
import Derived.Test.YtaegkhdkhgemmaaMem
namespace Go.Proofs.Ytaegkhdkhgemmaa
open Go.RowKit Num

/-- What the frame tells of a slice of integers that came in: nil, or a row of cap cells that fit their kind. -/
def IsRow (k : IntKind) (w : World) (a : Option Addr) (len cap : Nat) (zs : List Int) : Prop :=
  (a = none ∧ len = 0 ∧ cap = 0 ∧ zs = []) ∨
  ∃ x, a = some x ∧ len ≤ cap ∧ cap ≤ maxLen ∧ zs.length = cap ∧ (∀ i, i < zs.length → w.cell? (x.add i) = some (.int k (zs.getD i 0))) ∧ ∀ n ∈ zs, (Lit.int k n).wf = true

theorem rows_nums {w : World} {a : Option Addr} {len cap : Nat} {zs : List Int} (h : IsRow .u32 w a len cap zs) :
    ∃ xs : List Nat, Nums .u32 w a xs ∧ Low B32 xs ∧ len = xs.length ∧ len ≤ cap ∧ (a = none → cap = 0) := by
  rcases h with ⟨rfl, rfl, rfl, rfl⟩ | ⟨x, rfl, hl, _, hz, hcell, hwf⟩
  · exact ⟨[], Nums.nil, Low.nil _, rfl, Nat.le_refl _, fun _ => rfl⟩
  · refine ⟨(zs.take len).map Int.toNat, fun hp => ?_, fun y hy => ?_, ?_, hl, fun h => by cases h⟩
    · have hlen : 0 < zs.length := by simp at hp; omega
      have h0 := hcell 0 hlen
      obtain ⟨b, off, spot⟩ := x
      have hspot : spot = none := by simpa [Addr.add] using World.cell?_spot h0
      subst hspot
      refine ⟨b, off, rfl, ?_, fun i v hv => ?_⟩
      · have := block_lt_of_cell h0
        simpa [Addr.add] using this
      · rw [List.getElem?_map, Option.map_eq_some_iff] at hv
        obtain ⟨z, hz1, rfl⟩ := hv
        rw [List.getElem?_take] at hz1
        split at hz1
        · have hi := (List.getElem?_eq_some_iff.1 hz1).1
          have hc := hcell i hi
          have hzz : zs.getD i 0 = z := by rw [List.getD_eq_getElem?_getD, hz1]; rfl
          rw [hzz] at hc
          have hw := hwf z (List.mem_of_getElem? hz1)
          have h0z : 0 ≤ z := by simp [Lit.wf, IntKind.min, IntKind.max, IntKind.bits, IntKind.signed] at hw; omega
          have e : ((z.toNat : Nat) : Int) = z := Int.toNat_of_nonneg h0z
          rw [e]
          have ea : (⟨b, off, none⟩ : Addr).add i = ⟨b, off + i, none⟩ := by
            unfold Addr.add
            split
            · rename_i h; subst h; rfl
            · rfl
          rw [ea] at hc
          exact hc
        · cases hz1
    · simp only [List.mem_map] at hy
      obtain ⟨z, hz1, rfl⟩ := hy
      have hw := hwf z (List.mem_of_mem_take hz1)
      simp [Lit.wf, IntKind.min, IntKind.max, IntKind.bits, IntKind.signed] at hw
      unfold B32
      omega
    · simp; omega
theorem word_nat {x : Int} (h : (Lit.int .u64 x).wf = true) : ∃ v : Nat, x = (v : Int) ∧ v < B64 := by
  simp [Lit.wf, IntKind.min, IntKind.max, IntKind.bits, IntKind.signed] at h
  refine ⟨x.toNat, by omega, ?_⟩
  unfold B64
  omega
end Go.Proofs.Ytaegkhdkhgemmaa
