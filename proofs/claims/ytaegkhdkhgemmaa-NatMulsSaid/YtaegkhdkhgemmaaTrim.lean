import Derived.Test.YtaegkhdkhgemmaaMem
namespace Go.Proofs.Ytaegkhdkhgemmaa
open Go.RowKit Num

theorem trim_val {b : Nat} (hb : 2 ≤ b) {xs : List Nat} (hl : Low b xs) {k : Nat} (hk : k ≤ xs.length) (hz : ∀ (i v : Nat), xs[i]? = some v → k ≤ i → v = 0)
    (hn : ∀ v, 0 < k → xs[k - 1]? = some v → v ≠ 0) : xs.take k = dig b (val b xs) := by
  refine take_neat hb hl hk (fun i h hi => hz i _ (List.getElem?_eq_getElem h) hi) (fun h => hn _ h (List.getElem?_eq_getElem (by omega)))
theorem trim_le {b : Nat} (hb : 2 ≤ b) {xs : List Nat} (hl : Low b xs) : (dig b (val b xs)).length ≤ xs.length := dig_len_le hb (val_lt b xs hl)
theorem trim_take {b : Nat} (hb : 2 ≤ b) {xs : List Nat} (hl : Low b xs) : xs.take (dig b (val b xs)).length = dig b (val b xs) := by
  -- the number's digits, then zeros
  have h1 := low_dig hb (val b xs)
  have h2 := trim_le hb hl
  have h3 : val b (dig b (val b xs) ++ List.replicate (xs.length - (dig b (val b xs)).length) 0) = val b xs := by
    rw [val_append, val_replicate, val_dig hb]; simp
  have h4 : dig b (val b xs) ++ List.replicate (xs.length - (dig b (val b xs)).length) 0 = xs := val_inj hb (by simp; omega) (h1.append (Low.replicate (by omega) _)) hl h3
  have h5 := congrArg (List.take (dig b (val b xs)).length) h4
  rw [List.take_left'] at h5
  · exact h5.symm
  · rfl

def ZeroFrom (xs : List Nat) (k : Nat) : Prop := ∀ (i v : Nat), xs[i]? = some v → k ≤ i → v = 0

set_option maxHeartbeats 400000 in
theorem trim_any (A : Option Addr) (c n : Nat) (xs : List Nat) (w : World) (h : Nums .u64 w A xs) (hlow : Low B64 xs) (hn : n = xs.length) (hl : n ≤ c) (hc : n ≤ 1000000000000) :
    Calls Try.prog 78 #[.slice A n c] w fun e w' => e = .returned (.slice A (dig B64 (val B64 xs)).length c) ∧ w = w' := by
  subst hn
  have fin : ∀ k, k ≤ xs.length → ZeroFrom xs k → (∀ v, 0 < k → xs[k - 1]? = some v → v ≠ 0) → k = (dig B64 (val B64 xs)).length := fun k hk hz hn => by
    rw [← trim_val b64_two hlow hk hz hn, List.length_take]; omega
  have FIN := Lib.hid fin
  clear fin
  go_enter Try.func78, Try.ntmps78
  go_wp2
  go_loop [3] (fun t => ∃ k : Nat, k ≤ xs.length ∧ t = .int .i64 k ∧ ZeroFrom xs k) (fun t => (intOf t).toNat)
  case atStart => exact ⟨xs.length, Nat.le_refl _, rfl, fun i v hv hi => by have := (List.getElem?_eq_some_iff.1 hv).1; omega⟩
  case round => 
    obtain ⟨k, hk, rfl, hz⟩ := hrel
    by_cases hp : 0 < k
    · obtain ⟨g, off, v, rfl, hg, hv, hc1⟩ := h.at_ (i := k - 1) (by omega)
      have HV := Lib.hid hv
      clear hv h
      go_wp2
      · go_round
        case rel => 
          refine ⟨k - 1, by omega, by congr 1; omega, fun i u hu hi => ?_⟩
          have hv0 : ((v : Int) == 0) = true := by assumption
          by_cases e : i = k - 1
          · have := HV.out; rw [e] at hu; rw [hu] at this; simp at hv0; injection this; omega
          · exact hz i u hu (by omega)
        case measure => simp [intOf]; omega
      · go_ret
        have hv0 : ((v : Int) == 0) = false := by assumption
        have hnz : ∀ u, 0 < k → xs[k - 1]? = some u → u ≠ 0 := fun u _ hu => by
          have := HV.out; rw [hu] at this; simp at hv0; injection this; omega
        exact ⟨congrArg (fun n => Ending.returned (.slice _ n c)) (FIN.out k hk hz hnz), rfl⟩
    · go_wp2
      go_ret
      exact ⟨congrArg (fun n => Ending.returned (.slice _ n c)) (FIN.out k hk hz (fun u h0 => absurd h0 hp)), rfl⟩

/-- What trim gives of a row of the call's own. -/
theorem own_of_trim {k : IntKind} {T : TypeId} {b B : Nat} (hb : 2 ≤ b) {w : World} {g : Nat} {zs : List Nat} (hr : Row k T w g zs) (hlow : Low b zs) (hg : B ≤ g) :
    OwnNum k T b B w (.slice (some ⟨g, 0, none⟩) (dig b (val b zs)).length zs.length) (val b zs) :=
  ⟨g, zs.length, zs, rfl, trim_le hb hlow, rfl, hg, hr, hlow, trim_take hb hlow⟩
end Go.Proofs.Ytaegkhdkhgemmaa
