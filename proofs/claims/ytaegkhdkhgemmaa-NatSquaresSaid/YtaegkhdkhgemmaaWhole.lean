import Derived.Test.YtaegkhdkhgemmaaRefSub
namespace Go.Proofs.Ytaegkhdkhgemmaa
open Go.RowKit Num

/-- The length in a slot: for a loop's measure. -/
def lenOf : Value → Nat | .slice _ n _ => n | _ => 0

theorem limbs_cut {w : World} {A : Option Addr} {c : Nat} {xs : List Nat} (h : Limbs w (.slice A xs.length c) xs) : ∀ i, 0 < xs.length → i < xs.length → ∃ g off v, A = some ⟨g, off, none⟩ ∧ g < w.heap.size ∧ xs[i]? = some v ∧ w.cell? ⟨g, off + i, none⟩ = some (.int .u32 (v : Int)) := by
  intro i _ hi
  obtain ⟨A', c', e, _, _, hn⟩ := h
  injection e with e1 e2 e3
  subst e1
  exact hn.at_ hi

set_option maxHeartbeats 1000000 in
set_option maxRecDepth 100000 in
/-- whole: cut, then without the zeros at the end. -/
theorem whole_any (A : Option Addr) (c L n : Nat) (xs : List Nat) (w : World) (hA : Nums .u32 w A xs) (hlow : Low B32 xs) (hL : L = xs.length) (hc : L ≤ c) (hnil : A = none → c = 0) (hn : n ≤ 1000) :
    Calls Try.prog 69 #[.slice A L c, .int .i64 (n : Int)] w fun e w' => ∃ v, e = .returned v ∧ N32 w' v (val B32 (xs.take n)) ∧ Below w.heap.size w w' := by
  have hcut := cut_any A c L n xs w hA hL hc hnil hn
  have hlow' := hlow.take n
  have hlen : (xs.take n).length ≤ 1000 := by rw [List.length_take]; omega
  generalize xs.take n = ys at *
  obtain ⟨r, hr⟩ : ∃ r, val B32 ys = r := ⟨_, rfl⟩
  have fin : ∀ k, k ≤ ys.length → ZeroFrom ys k → (∀ v, 0 < k → ys[k - 1]? = some v → v ≠ 0) → ys.take k = dig B32 r := fun k hk hz hn => by rw [← hr]; exact trim_val b32_two hlow' hk hz hn
  have FIN := Lib.hid fin
  have HC := Lib.hid hcut
  have HR := Lib.hid hr
  rw [hr]
  clear hcut hA hL hnil fin hr
  go_enter Try.func69, Try.ntmps69
  go_wp2_with (go_at_call 26
               refine HC.out.mono ?_
               rintro e w1 ⟨v1, rfl, hv1, hb1⟩
               obtain ⟨A1, c1, he1, hc1, hn1⟩ := own_reads hv1
               have HV1 := Lib.hid hv1
               clear hv1
               subst he1)
  go_loop [0] (fun t => ∃ k : Nat, k ≤ ys.length ∧ t = .slice A1 k c1 ∧ ZeroFrom ys k) (fun t => lenOf t)
  case atStart => exact ⟨ys.length, Nat.le_refl _, rfl, fun i v hv hi => by have := (List.getElem?_eq_some_iff.1 hv).1; omega⟩
  case round =>
    obtain ⟨k, hk, rfl, hz⟩ := hrel
    have hex : (∃ v, 0 < k ∧ ys[k - 1]? = some v ∧ v = 0) ∨ (∀ v, 0 < k → ys[k - 1]? = some v → v ≠ 0) := by
      by_cases hh : ∃ v, 0 < k ∧ ys[k - 1]? = some v ∧ v = 0
      · exact .inl hh
      · exact .inr fun v h1 h2 h3 => hh ⟨v, h1, h2, h3⟩
    rcases hex with ⟨v, hp, hv, hv0⟩ | hfin
    · obtain ⟨g, off, v', rfl, hg, hv', hc2⟩ := hn1.at_ (i := k - 1) (by omega)
      have e : v' = v := by rw [hv] at hv'; injection hv' with hv'; exact hv'.symm
      subst e
      have hq : ((v' : Int) == 0) = true := by simp [hv0]
      have HV := Lib.hid hv
      have H0 := Lib.hid hv0
      clear hv hv' hv0 hn1
      go_wp2
      go_round
      case rel =>
        refine ⟨k - 1, by omega, rfl, fun i u hu hi => ?_⟩
        by_cases e : i = k - 1
        · have := HV.out; rw [e] at hu; rw [hu] at this; injection this with this; rw [this]; exact H0.out
        · exact hz i u hu (by omega)
      case measure => simp [lenOf]; omega
    · have htk := FIN.out k hk hz hfin
      have hlen2 : (dig B32 r).length = k := by rw [← htk, List.length_take]; omega
      have hnum : Nums .u32 w1 A1 (dig B32 r) := by rw [← htk]; exact hn1.take k
      have hres : N32 w1 (.slice A1 k c1) r := ⟨A1, c1, by rw [hlen2], by rw [hlen2]; omega, hnum⟩
      have HRES := Lib.hid hres
      clear htk hlen2 hnum hres
      by_cases hp : 0 < k
      · obtain ⟨g, off, v, rfl, hg, hv, hc2⟩ := hn1.at_ (i := k - 1) (by omega)
        have hq : ((v : Int) == 0) = false := by have := hfin v hp hv; simp; omega
        have HV := Lib.hid hv
        clear hv hn1 hfin
        go_wp2
        go_ret
        exact ⟨_, rfl, HRES.out, hb1⟩
      · clear hn1 hfin
        go_wp2
        go_ret
        exact ⟨_, rfl, HRES.out, hb1⟩
end Go.Proofs.Ytaegkhdkhgemmaa
