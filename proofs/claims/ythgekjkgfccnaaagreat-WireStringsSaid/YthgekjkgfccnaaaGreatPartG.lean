/- Part of the proof of WireStrings: ChkPc, Coils, WLiv, WFold, WRef, RefOver, RefSh, RefSub, RefDiv, RefDivW, ZStr. -/
import Derived.Test.YthgekjkgfccnaaaGreatPartF
import Derived.Test.YthgekjkgfccnaaaGreatPartC
import Derived.Test.YthgekjkgfccnaaaGreatPartD
namespace Go.Proofs.YthgekjkgfccnaaaGreat
open Go.RowKit

def allB (f : Int → Bool) (l : List Int) : Bool := l.all f
theorem allB_take_succ {f : Int → Bool} {l : List Int} {k : Nat} {x : Int} (h : allB f (l.take k) = true) (hx : l[k]? = some x) (hf : f x = true) : allB f (l.take (k + 1)) = true := by
  unfold allB at *
  have : l.take (k + 1) = l.take k ++ [x] := by rw [List.take_add_one, hx]; rfl
  rw [this, List.all_append, h]
  simp [hf]
theorem allB_bad {f : Int → Bool} {l : List Int} {k : Nat} {x : Int} (hx : l[k]? = some x) (hf : f x = false) : allB f l = false := by
  unfold allB
  cases h : l.all f
  · rfl
  · have := List.all_eq_true.1 h x (List.mem_of_getElem? hx)
    rw [hf] at this; cases this
theorem allB_mem {f : Int → Bool} {l : List Int} (h : allB f l = true) : ∀ x ∈ l, f x = true := List.all_eq_true.1 h
def rangeB (x : Int) : Bool := inB x 1 1000000000
def leB (c : Int) (x : Int) : Bool := decide (x ≤ c)
/-- What checkPieces returns. -/
def pcErr (l : List Int) (coil : Int) : Int := if 14 < l.length ∨ rangeB coil = false then 1 else if allB rangeB l = false then 1 else if allB (leB coil) l = false then 3 else 0

def IntEnd (w : World) (n : Int) (e : Ending) (w' : World) : Prop := e = .returned (.int .i64 n) ∧ w = w'
set_option maxHeartbeats 1000000 in
set_option maxRecDepth 100000 in
theorem checkPieces_any (A : Option Addr) (cp L : Nat) (l : List Int) (coil : Int) (w : World) (hA : Ints w A l) (hL : L = l.length) (hl : l.length ≤ 1000000) :
    Calls Tryz.prog 78 #[.slice A L cp, .int .i64 coil] w (IntEnd w (pcErr l coil)) := by
  by_cases h14 : 14 < L
  · have he : pcErr l coil = 1 := by unfold pcErr; rw [if_pos (.inl (by omega))]
    rw [he]
    have hd : decide (14 < (L : Int)) = true := by simp; omega
    have hd2 : decide (14 < L) = true := by simpa using h14
    clear hL he hl
    go_enter Tryz.func78, Tryz.ntmps78
    go_wp2
    go_ret
    exact ⟨rfl, rfl⟩
  · have hd : decide (14 < (L : Int)) = false := by simp; omega
    have hd2 : decide (14 < L) = false := by simpa using h14
    have hw : ∀ v, rangeB v = inB v 1 1000000000 := fun _ => rfl
    have hwi := fun (v : Int) (W : World) => (show Calls Tryz.prog 39 #[.int .i64 v, .int .i64 1, .int .i64 1000000000] W fun e w' => e = .returned (.bool (rangeB v)) ∧ W = w' from within_any v 1 1000000000 W)
    cases hc : rangeB coil with
    | false =>
      have he : pcErr l coil = 1 := by unfold pcErr; rw [if_pos (.inr hc)]
      rw [he]
      have hcl := hwi coil w
      rw [hc] at hcl
      have HC := Lib.hid hcl
      have HW := Lib.hid hwi
      clear hL he hl hcl hw hwi hc
      go_enter Tryz.func78, Tryz.ntmps78
      go_wp2_with (fail)
      refine (HC.out).mono ?_
      rintro e w1 ⟨rfl, rfl⟩
      go_wp2
      go_ret
      exact ⟨rfl, rfl⟩
    | true =>
      have hcl := hwi coil w
      rw [hc] at hcl
      have HC := Lib.hid hcl
      have HW := Lib.hid hwi
      have HL := Lib.hid hL
      have HCO := Lib.hid hc
      have HA := Lib.hid hA
      have HN : ¬ (14 < l.length ∨ rangeB coil = false) := by rw [hc, ← hL]; simp; omega
      have HNN := Lib.hid HN
      clear hL hcl hw hwi hc hA HN
      go_enter Tryz.func78, Tryz.ntmps78
      go_wp2_with (fail)
      refine (HC.out).mono ?_
      rintro e w1 ⟨rfl, rfl⟩
      go_wp2
      go_loop [19] (fun t => ∃ k : Nat, k ≤ L ∧ t = .int .i64 (k : Int) ∧ allB rangeB (l.take k) = true) (fun t => L - (intOf t).toNat)
      case atStart => exact ⟨0, Nat.zero_le _, rfl, rfl⟩
      case round =>
        obtain ⟨k, hk, rfl, hal⟩ := hrel
        have HAL := Lib.hid hal
        clear hal
        by_cases hlt : k < L
        · obtain ⟨g, off, x, rfl, hg, hx, hcx⟩ := Ints.at_ HA.out (i := k) (by have := HL.out; omega)
          have HX := Lib.hid hx
          clear hx
          cases hf : rangeB x with
          | false =>
            have he : pcErr l coil = 1 := by unfold pcErr; rw [if_neg HNN.out, if_pos (allB_bad HX.out hf)]
            have hcl := HW.out x w
            rw [hf] at hcl
            have HC2 := Lib.hid hcl
            have HE := Lib.hid he
            clear hcl hf he
            go_wp2_with (fail)
            refine (HC2.out).mono ?_
            rintro e w1 ⟨rfl, rfl⟩
            go_wp2
            go_ret
            exact ⟨by rw [HE.out]; rfl, rfl⟩
          | true =>
            have hcl := HW.out x w
            rw [hf] at hcl
            have HC2 := Lib.hid hcl
            have hn := allB_take_succ HAL.out HX.out hf
            have HNx := Lib.hid hn
            clear hcl hf hn
            go_wp2_with (fail)
            refine (HC2.out).mono ?_
            rintro e w1 ⟨rfl, rfl⟩
            go_wp2
            go_round
            case rel => exact ⟨k + 1, by omega, by go_num, HNx.out⟩
            case measure => simp [intOf]; omega
        · obtain rfl : k = L := by omega
          have hall : allB rangeB l = true := by have := HAL.out; rwa [HL.out, List.take_length] at this
          have HALL := Lib.hid hall
          clear hall
          go_wp2
          go_loop [29] (fun t => ∃ j : Nat, j ≤ k ∧ t = .int .i64 (j : Int) ∧ allB (leB coil) (l.take j) = true) (fun t => k - (intOf t).toNat)
          case atStart => exact ⟨0, Nat.zero_le _, rfl, rfl⟩
          case round =>
            obtain ⟨j, hj, rfl, hal⟩ := hrel
            have HAL2 := Lib.hid hal
            clear hal
            by_cases hlt : j < k
            · obtain ⟨g, off, x, rfl, hg, hx, hcx⟩ := Ints.at_ HA.out (i := j) (by have := HL.out; omega)
              have HX := Lib.hid hx
              clear hx
              by_cases hf : coil < x
              · have he : pcErr l coil = 3 := by
                  unfold pcErr
                  rw [if_neg HNN.out, if_neg (by rw [HALL.out]; simp), if_pos (allB_bad HX.out (by unfold leB; simp; omega))]
                have HE := Lib.hid he
                clear he
                go_wp2
                go_ret
                exact ⟨by rw [HE.out]; rfl, rfl⟩
              · have hn := allB_take_succ (f := leB coil) HAL2.out HX.out (by unfold leB; simp; omega)
                have HNx := Lib.hid hn
                clear hn
                go_wp2
                go_round
                case rel => exact ⟨j + 1, by omega, by go_num, HNx.out⟩
                case measure => simp [intOf]; omega
            · obtain rfl : j = k := by omega
              have hall2 : allB (leB coil) l = true := by have := HAL2.out; rwa [HL.out, List.take_length] at this
              have he : pcErr l coil = 0 := by
                unfold pcErr
                rw [if_neg HNN.out, if_neg (by rw [HALL.out]; simp), if_neg (by rw [hall2]; simp)]
              have HE := Lib.hid he
              clear he hall2
              go_wp2
              go_ret
              exact ⟨by rw [HE.out]; rfl, rfl⟩
end Go.Proofs.YthgekjkgfccnaaaGreat

namespace Go.Proofs.YthgekjkgfccnaaaGreat
open Go.RowKit

theorem rep_is (n : Nat) (x : Int) : (List.replicate n (is [x])).flatten = is (List.replicate n x) := by simp [is]
theorem Greedy.cons {l rooms : List Int} {ns : List Nat} {i : Nat} {p : Int} (h : Greedy (l.drop i) rooms (ns.drop i)) (hp : l[i]? = some p) :
    ∃ m : Nat, ns[i]? = some m ∧ m < rooms.length ∧ canF m p (l.drop (i + 1)) rooms = true ∧ (∀ j, j < m → canF j p (l.drop (i + 1)) rooms = false) ∧ Greedy (l.drop (i + 1)) (rooms.set m (rooms.getD m 0 - p)) (ns.drop (i + 1)) := by
  have hi : i < l.length := (List.getElem?_eq_some_iff.1 hp).1
  have e : l.drop i = p :: l.drop (i + 1) := by
    rw [List.drop_eq_getElem_cons hi]
    rw [List.getElem?_eq_getElem hi] at hp
    injection hp with hp
    rw [hp]
  rw [e] at h
  cases hn : ns.drop i with
  | nil => rw [hn] at h; exact absurd h (by simp [Greedy])
  | cons m t =>
    rw [hn] at h
    have hm : ns[i]? = some m := by
      have : (ns.drop i)[0]? = some m := by rw [hn]; rfl
      rwa [List.getElem?_drop, Nat.add_zero] at this
    have ht : ns.drop (i + 1) = t := by
      have : (ns.drop i).drop 1 = t := by rw [hn]; rfl
      rwa [List.drop_drop] at this
    obtain ⟨⟨h1, h2, h3⟩, h4⟩ := h
    exact ⟨m, hm, h1, h2, h3, by rw [ht]; exact h4⟩
theorem Greedy.len : ∀ {l rooms : List Int} {ns : List Nat}, Greedy l rooms ns → ns.length = l.length
  | [], _, [], _ => rfl
  | [], _, _ :: _, h => by simp [Greedy] at h
  | _ :: _, _, [], h => by simp [Greedy] at h
  | _ :: l, _, _ :: ns, h => by simp [Greedy.len h.2]
/-- Some room is left in the coil that takes a piece. -/
theorem canF_room {k : Nat} {p : Int} {o rooms : List Int} (h : canF k p o rooms = true) : p ≤ rooms.getD k 0 := by
  unfold canF at h
  simp only [Bool.and_eq_true, decide_eq_true_eq] at h
  exact h.1
def nums (ns : List Nat) : List Int := ns.map fun (x : Nat) => (x : Int)
/-- What Coils returns. -/
def CoilsPost (w : World) (ns : List Nat) (K : Nat) (e : Ending) (w' : World) : Prop :=
  ∃ g, e = .returned (.tuple #[.slice (some ⟨g, 0, none⟩) ns.length ns.length, .int .i64 (K : Int), .int .i64 0]) ∧ w.heap.size ≤ g ∧ Blk 3 w' g (is (nums ns)) ∧ Below w.heap.size w w'
/-- The numbers that are known, the one that is being raised, and zeros. -/
def part (ns : List Nat) (i j : Nat) : List Int := (nums ns).take i ++ (j : Int) :: List.replicate (ns.length - i - 1) 0
theorem part_at {ns : List Nat} {i : Nat} (h : i < ns.length) (j : Nat) : (part ns i j)[i]? = some (j : Int) := by
  unfold part
  rw [List.getElem?_append_right (by rw [List.length_take]; exact Nat.min_le_left _ _), List.length_take]
  have e : i - min i (nums ns).length = 0 := by simp [nums]; omega
  rw [e]
  rfl
theorem part_set {ns : List Nat} {i : Nat} (h : i < ns.length) (j : Nat) (x : Int) : (part ns i j).set i x = (nums ns).take i ++ x :: List.replicate (ns.length - i - 1) 0 := by
  unfold part
  have : ((nums ns).take i).length = i := by simp [nums]; omega
  rw [List.set_append_right _ _ (by omega), this]
  simp
theorem part_next {ns : List Nat} {i m : Nat} (hm : ns[i]? = some m) : part ns i m = (nums ns).take (i + 1) ++ List.replicate (ns.length - (i + 1)) 0 := by
  unfold part
  have h1 : (nums ns)[i]? = some (m : Int) := by simp [nums, hm]
  rw [List.take_add_one, h1]
  simp [show ns.length - i - 1 = ns.length - (i + 1) by omega]
theorem part_start {ns : List Nat} {i : Nat} (h : i < ns.length) : (nums ns).take i ++ List.replicate (ns.length - i) 0 = part ns i 0 := by
  unfold part
  rw [show ns.length - i = (ns.length - i - 1) + 1 by omega, List.replicate_succ]
  rfl

theorem room_left {r p : Int} (hr : 0 ≤ r ∧ r ≤ 1000000000) (hp : 1 ≤ p ∧ p ≤ 1000000000) (h : p ≤ r) : (0 ≤ r - p ∧ r - p ≤ 1000000000) ∧ IntKind.i64.wrap (r - p) = r - p :=
  ⟨by omega, wrapI (by omega) (by omega)⟩
theorem room_lt {mi n m : Nat} (h : mi < n) (e : n = m + 1) : (mi : Int) < (m : Int) + 1 := by omega
theorem wrap_succ {i I : Nat} (h : I = i + 1) (hi : i < 14) : wrap64 ((i : Int) + 1) = (I : Int) := by unfold wrap64; omega
theorem wrap_succ' {i I : Nat} (h : I = i + 1) (hi : i < 14) : IntKind.i64.wrap ((i : Int) + 1) = (I : Int) := by rw [wrapI (by omega) (by omega)]; omega
set_option maxHeartbeats 4000000 in
set_option maxRecDepth 100000 in
theorem coils_ok (A : Option Addr) (cp : Nat) (l : List Int) (ns : List Nat) (coil : Int) (m : Nat) (w : World) (hA : Ints w A l) (hcp : l.length ≤ cp) (h0 : pcErr l coil = 0) (hne : 0 < l.length) (hl : l.length ≤ 14)
    (hp : PiecesOk l) (hc : 1 ≤ coil ∧ coil ≤ 1000000000) (hK : lastF l (List.replicate l.length coil) = m) (hK2 : m < l.length) (hG : Greedy l (List.replicate (m + 1) coil) ns) :
    Calls Tryz.prog 53 #[.slice A l.length cp, .int .i64 coil] w (CoilsPost w ns (m + 1)) := by
  have hchk := checkPieces_any A cp l.length l coil w hA rfl (by omega)
  rw [h0] at hchk
  have hbx := below_new w (Obj.cells #[.int .i64 coil] 3)
  have hx : Ints (w.alloc (Obj.cells #[.int .i64 coil] 3)) (some ⟨w.heap.size, 0, none⟩) [coil] := (Blk.new w 3 [_]).vals0
  have hrep := repeatI_any w.heap.size 0 1 l.length coil _ hx (by omega) (by omega)
  have hnl := hG.len
  obtain ⟨gA, oA, p0, rfl, hgA, _, _⟩ := Ints.at_ hA hne
  have HCH := Lib.hid hchk
  have HRP := Lib.hid hrep
  have HA := Lib.hid hA
  have HK := Lib.hid hK
  have HG := Lib.hid hG
  have HNL := Lib.hid hnl
  have HRO : RoomsOk (List.replicate l.length coil) := fun r hr => by rw [List.eq_of_mem_replicate hr]; omega
  have HRK : RoomsOk (List.replicate (m + 1) coil) := fun r hr => by rw [List.eq_of_mem_replicate hr]; omega
  have hsL : ((l.length : Int) == 0) = false := by simp; intro h; rw [h] at hne; simp at hne
  have hm1 : IntKind.i64.wrap ((m : Int) + 1) = (m : Int) + 1 := wrapI (by omega) (by omega)
  have hmk := fun w1 => run_make_same (P := Tryz.prog) 38 3 (.int .i64 0) (.int .i64 0) 1 8 Tryz.underlying38 infoI rfl (by omega) l.length l.length (by omega) (by omega) (by omega) w1
  clear hchk hrep hx hK hG hnl hA h0
  go_enter Tryz.func53, Tryz.ntmps53
  go_wp2_with (fail)
  refine (HCH.out).mono ?_
  rintro e w0 ⟨rfl, rfl⟩
  go_wp2_with (fail)
  refine (HRP.out).mono ?_
  rintro e w1 ⟨g1, rfl, hg1, hb1, hbl1⟩
  rw [rep_is] at hb1
  have c1 := below_on hbx hbx.size hbl1
  have hla := lastCoil_any (some ⟨gA, oA, none⟩) (some ⟨g1, 0, none⟩) cp l.length l (List.replicate l.length coil) w1 (HA.out.keep c1) hb1.vals0 hp HRO hl (by simp; omega)
  rw [List.length_replicate, HK.out] at hla
  have HLA := Lib.hid hla
  clear hla hb1
  go_wp2_with (fail)
  refine (HLA.out).mono ?_
  rintro e w2 ⟨rfl, hbl2⟩
  have c2 := below_on c1 c1.size hbl2
  have hbx2 := below_new w2 (Obj.cells #[.int .i64 coil] 3)
  have c2' := below_on c2 c2.size hbx2
  have hx2 : Ints (w2.alloc (Obj.cells #[.int .i64 coil] 3)) (some ⟨w2.heap.size, 0, none⟩) [coil] := (Blk.new w2 3 [_]).vals0
  have hrep2 := repeatI_any w2.heap.size 0 1 (m + 1) coil _ hx2 (by omega) (by omega)
  rw [show ((m + 1 : Nat) : Int) = (m : Int) + 1 by push_cast; rfl] at hrep2
  have HR2 := Lib.hid hrep2
  clear hrep2 hx2 hbx hbx2
  go_wp2_with (fail)
  refine (HR2.out).mono ?_
  rintro e w3 ⟨gR, rfl, hgR, hbR, hbl3⟩
  rw [rep_is] at hbR
  have c3 := below_on c2' c2'.size hbl3
  have hgR0 : w.heap.size ≤ gR := by have := c2'.size; omega
  have hN0 : Blk 3 (w3.alloc (.cells (Array.replicate l.length (.int .i64 0)) 3)) w3.heap.size (is (List.replicate l.length 0)) := by
    have := Blk.new w3 3 (is (List.replicate l.length 0))
    have e : (is (List.replicate l.length 0)).toArray = Array.replicate l.length (.int .i64 0) := by simp [is]
    rwa [e] at this
  have hR0 := hbR.alloc (.cells (Array.replicate l.length (.int .i64 0)) 3)
  have c4 := c3.alloc c3.size (.cells (Array.replicate l.length (.int .i64 0)) 3)
  have hgRl : gR < w3.heap.size := hbR.lt
  have HN0 := Lib.hid hN0
  have HR0 := Lib.hid hR0
  clear hN0 hR0 hbR hgA
  go_wp2_with (fail)
  clear hmk
  have hgN0 : w.heap.size ≤ w3.heap.size := c3.size
  generalize hgN : w3.heap.size = gN at *
  clear hgN
  go_loopw [11, 12, 39] (fun _ _ t wr => ∃ (i : Nat) (rooms : List Int), i ≤ l.length ∧ t = .int .i64 (i : Int) ∧ Hid (Greedy (l.drop i) rooms (ns.drop i)) ∧ RoomsOk rooms ∧ Hid (rooms.length = m + 1) ∧ Blk 3 wr gR (is rooms) ∧ Blk 3 wr gN (is ((nums ns).take i ++ List.replicate (ns.length - i) 0)) ∧ Below w.heap.size w wr) (fun _ _ t _ => l.length - (intOf t).toNat)
  case atStart => exact ⟨0, _, Nat.zero_le _, rfl, HG, HRK, Lib.hid (by simp), HR0.out, by rw [HNL.out]; exact HN0.out, c4⟩
  case round =>
    obtain ⟨i, rooms, hi, rfl, HGi, hro, HRL, hbR, hbN, hbl⟩ := hrel
    by_cases hlt : i < l.length
    · obtain ⟨g', o', p, e', hg', hpi, hcp'⟩ := Ints.at_ (HA.out.keep hbl) (i := i) hlt
      injection e' with e'
      injection e' with e1 e2
      subst e1 e2
      obtain ⟨mi, hmi, hmr, hcan, hbef, hnext⟩ := Greedy.cons HGi.out hpi
      have hpp := hp p (List.mem_of_getElem? hpi)
      obtain ⟨I, hI⟩ : ∃ I, I = i + 1 := ⟨_, rfl⟩
      have hi1 := wrap_succ hI (Nat.lt_of_lt_of_le hlt hl)
      have hi2 := wrap_succ' hI (Nat.lt_of_lt_of_le hlt hl)
      have hIL2 : I ≤ l.length := by rw [hI]; exact hlt
      have hIL : (I : Int) ≤ (l.length : Int) := Int.ofNat_le.2 hIL2
      rw [← hI] at hnext hcan hbef
      have HI := Lib.hid hI
      have HLT := Lib.hid hlt
      clear hI
      have hin : i < ns.length := by rw [HNL.out]; exact hlt
      have hbN' : Blk 3 wr gN (is (part ns i 0)) := by rw [← part_start hin]; exact hbN
      have HB := Lib.hid hbef
      have HCA := Lib.hid hcan
      have HMI := Lib.hid hmi
      have HNX := Lib.hid hnext
      clear hbef hcan hmi hnext hpi hbN
      obtain ⟨A2, hA2⟩ : ∃ A2, A2 = (if cp = I then some (⟨gA, oA, none⟩ : Addr) else some ⟨gA, oA + I, none⟩) := ⟨_, rfl⟩
      have hv2 : ∀ w', Ints w' (some ⟨gA, oA, none⟩) l → Ints w' A2 (l.drop I) := by
        intro w' h
        rw [hA2]
        split
        · rename_i hcpe
          rw [List.drop_eq_nil_of_le (by omega)]
          exact Vals.nil
        · have := Vals.drop h I
          rwa [is_drop] at this
      have hgRN : gR ≠ gN := Nat.ne_of_lt hgRl
      have HV2 := Lib.hid hv2
      have HA2 := Lib.hid hA2
      have hlt2 : (l.drop I).length ≤ 14 := by rw [List.length_drop]; omega
      have hpo2 : PiecesOk (l.drop I) := fun x hx => hp x (List.mem_of_mem_drop hx)
      clear hv2 hA2
      go_wp2_with (fail)
      go_loopw [] (fun wr => ∃ j : Nat, j ≤ mi ∧ Blk 3 wr gR (is rooms) ∧ Blk 3 wr gN (is (part ns i j)) ∧ Below w.heap.size w wr) (fun wr => mi - (cellI wr ⟨gN, i, none⟩).toNat)
      case atStart => exact ⟨0, Nat.zero_le _, hbR, hbN', hbl⟩
      case round =>
        clear hbR hbN' hbl
        obtain ⟨j, hj, hbR, hbN, hbl⟩ := hrel
        have cN := (hbN.cell i).trans (is_at (part_at hin j))
        have fN := hbN.frozen
        have hmi14 : mi < 100 := by have := HRL.out; omega
        have hj1 : IntKind.i64.wrap ((j : Int) + 1) = (j : Int) + 1 := wrapI (by omega) (by omega)
        have hct := canTake_any j p A2 (some ⟨gR, 0, none⟩) (cp - I) (m + 1) (l.drop I) rooms wr.drew (HV2.out _ (HA.out.keep hbl).drew) hbR.drew.vals0 hpp hpo2 hro (by have := HRL.out; omega) hlt2 (by have := HRL.out; omega)
        rw [List.length_drop, HRL.out] at hct
        by_cases hcpe : cp = I
        · have hA2 : A2 = some ⟨gA, oA, none⟩ := by rw [HA2.out, if_pos hcpe]
          rw [hA2] at hct
          clear hA2
          subst hcpe
          rw [Nat.sub_eq_zero_of_le hcp, Nat.sub_self] at hct
          by_cases hjm : j < mi
          · rw [HB.out j hjm] at hct
            have HCT := Lib.hid hct
            clear hct
            go_wp2_with (fail)
            go_still_tail 10, (by kernel_rfl)
            change wpList _ _ _ _ _ wr.drew
            go_wp2_with (fail)
            refine (HCT.out).mono ?_
            rintro e w4 ⟨rfl, hb4⟩
            have hbN4 := hbN.drew.keep hb4
            have hbR4 := hbR.drew.keep hb4
            have hbl4 := below_on hbl.drew hbl.drew.size hb4
            have cN4 := (hbN4.cell i).trans (is_at (part_at hin j))
            have fN4 := hbN4.frozen
            have hst := hbN4.set i (.int .i64 ((j : Int) + 1))
            rw [is_set, part_set hin] at hst
            have hst2 : Blk 3 (w4.setCell ⟨gN, i, none⟩ (.int .i64 ((j : Int) + 1))) gN (is (part ns i (j + 1))) := hst
            have hm1 : cellI wr ⟨gN, i, none⟩ = (j : Int) := cellI_of cN
            have hm2 : cellI (w4.setCell ⟨gN, i, none⟩ (.int .i64 ((j : Int) + 1))) ⟨gN, i, none⟩ = ((j + 1 : Nat) : Int) := cellI_of ((hst2.cell i).trans (is_at (part_at hin (j + 1))))
            have HST := Lib.hid hst2
            have HM1 := Lib.hid hm1
            have HM2 := Lib.hid hm2
            clear hst hst2 hm1 hm2 cN fN
            go_wp2
            go_roundw
            case rel => exact ⟨j + 1, by omega, hbR4.setOther (a := ⟨gN, i, none⟩) hgRN _, HST.out, below_set hbl4 hgN0 _⟩
            case measure => rw [HM1.out, HM2.out]; omega
          · have hjm2 : j = mi := Nat.le_antisymm hj (Nat.le_of_not_lt hjm)
            rw [hjm2, HCA.out] at hct
            rw [hjm2] at hbN cN
            have HCT := Lib.hid hct
            clear hct hjm hjm2
            go_wp2_with (fail)
            go_still_tail 10, (by kernel_rfl)
            change wpList _ _ _ _ _ wr.drew
            go_wp2_with (fail)
            refine (HCT.out).mono ?_
            rintro e w4 ⟨rfl, hb4⟩
            have hbN4 := hbN.drew.keep hb4
            have hbR4 := hbR.drew.keep hb4
            have hbl4 := below_on hbl.drew hbl.drew.size hb4
            have cN4 := (hbN4.cell i).trans (is_at (part_at hin mi))
            obtain ⟨r, hr⟩ : ∃ r, rooms[mi]? = some r := ⟨rooms[mi], List.getElem?_eq_getElem hmr⟩
            have cR4 := (hbR4.cell mi).trans (is_at hr)
            have fR4 := hbR4.frozen
            have hrr := hro r (List.mem_of_getElem? hr)
            have hgd : rooms.getD mi 0 = r := by rw [List.getD_eq_getElem?_getD, hr]; rfl
            have hroom := canF_room HCA.out
            have hnx := HNX.out
            rw [hgd] at hroom hnx
            have hst := hbR4.set mi (.int .i64 (r - p))
            rw [is_set] at hst
            obtain ⟨hrn, hs5⟩ := room_left hrr hpp hroom
            have hnext := part_next HMI.out
            rw [hnext] at hbN4
            have HST := Lib.hid hst
            have HNN := Lib.hid hnx
            have HRM := Lib.hid hroom
            have HBN := Lib.hid hbN4
            have hroom2 : p ≤ r := hroom
            have hmr2 := room_lt hmr HRL.out
            clear hst hnx hroom hbN4 hr hgd hnext cN fN
            go_wp2
            go_roundw
            case rel => exact ⟨i + 1, rooms.set mi (r - p), Nat.succ_le_of_lt HLT.out, by rw [HI.out], by have := HNN.out; rw [HI.out] at this; exact this, hro.set hrn, Lib.hid (by rw [List.length_set]; exact HRL.out), HST.out, HBN.out.setOther (a := ⟨gR, mi, none⟩) (Ne.symm hgRN) _, below_set hbl4 hgR0 _⟩
            case measure => clear hi1 hi2; simp [intOf]; have h1 := HI.out; have h2 := HLT.out; omega
        · have hA2 : A2 = some ⟨gA, oA + I, none⟩ := by rw [HA2.out, if_neg hcpe]
          rw [hA2] at hct
          clear hA2
          by_cases hjm : j < mi
          · rw [HB.out j hjm] at hct
            have HCT := Lib.hid hct
            clear hct
            go_wp2_with (fail)
            go_still_tail 10, (by kernel_rfl)
            change wpList _ _ _ _ _ wr.drew
            go_wp2_with (fail)
            refine (HCT.out).mono ?_
            rintro e w4 ⟨rfl, hb4⟩
            have hbN4 := hbN.drew.keep hb4
            have hbR4 := hbR.drew.keep hb4
            have hbl4 := below_on hbl.drew hbl.drew.size hb4
            have cN4 := (hbN4.cell i).trans (is_at (part_at hin j))
            have fN4 := hbN4.frozen
            have hst := hbN4.set i (.int .i64 ((j : Int) + 1))
            rw [is_set, part_set hin] at hst
            have hst2 : Blk 3 (w4.setCell ⟨gN, i, none⟩ (.int .i64 ((j : Int) + 1))) gN (is (part ns i (j + 1))) := hst
            have hm1 : cellI wr ⟨gN, i, none⟩ = (j : Int) := cellI_of cN
            have hm2 : cellI (w4.setCell ⟨gN, i, none⟩ (.int .i64 ((j : Int) + 1))) ⟨gN, i, none⟩ = ((j + 1 : Nat) : Int) := cellI_of ((hst2.cell i).trans (is_at (part_at hin (j + 1))))
            have HST := Lib.hid hst2
            have HM1 := Lib.hid hm1
            have HM2 := Lib.hid hm2
            clear hst hst2 hm1 hm2 cN fN
            go_wp2
            go_roundw
            case rel => exact ⟨j + 1, by omega, hbR4.setOther (a := ⟨gN, i, none⟩) hgRN _, HST.out, below_set hbl4 hgN0 _⟩
            case measure => rw [HM1.out, HM2.out]; omega
          · have hjm2 : j = mi := Nat.le_antisymm hj (Nat.le_of_not_lt hjm)
            rw [hjm2, HCA.out] at hct
            rw [hjm2] at hbN cN
            have HCT := Lib.hid hct
            clear hct hjm hjm2
            go_wp2_with (fail)
            go_still_tail 10, (by kernel_rfl)
            change wpList _ _ _ _ _ wr.drew
            go_wp2_with (fail)
            refine (HCT.out).mono ?_
            rintro e w4 ⟨rfl, hb4⟩
            have hbN4 := hbN.drew.keep hb4
            have hbR4 := hbR.drew.keep hb4
            have hbl4 := below_on hbl.drew hbl.drew.size hb4
            have cN4 := (hbN4.cell i).trans (is_at (part_at hin mi))
            obtain ⟨r, hr⟩ : ∃ r, rooms[mi]? = some r := ⟨rooms[mi], List.getElem?_eq_getElem hmr⟩
            have cR4 := (hbR4.cell mi).trans (is_at hr)
            have fR4 := hbR4.frozen
            have hrr := hro r (List.mem_of_getElem? hr)
            have hgd : rooms.getD mi 0 = r := by rw [List.getD_eq_getElem?_getD, hr]; rfl
            have hroom := canF_room HCA.out
            have hnx := HNX.out
            rw [hgd] at hroom hnx
            have hst := hbR4.set mi (.int .i64 (r - p))
            rw [is_set] at hst
            obtain ⟨hrn, hs5⟩ := room_left hrr hpp hroom
            have hnext := part_next HMI.out
            rw [hnext] at hbN4
            have HST := Lib.hid hst
            have HNN := Lib.hid hnx
            have HRM := Lib.hid hroom
            have HBN := Lib.hid hbN4
            have hroom2 : p ≤ r := hroom
            have hmr2 := room_lt hmr HRL.out
            clear hst hnx hroom hbN4 hr hgd hnext cN fN
            go_wp2
            go_roundw
            case rel => exact ⟨i + 1, rooms.set mi (r - p), Nat.succ_le_of_lt HLT.out, by rw [HI.out], by have := HNN.out; rw [HI.out] at this; exact this, hro.set hrn, Lib.hid (by rw [List.length_set]; exact HRL.out), HST.out, HBN.out.setOther (a := ⟨gR, mi, none⟩) (Ne.symm hgRN) _, below_set hbl4 hgR0 _⟩
            case measure => clear hi1 hi2; simp [intOf]; have h1 := HI.out; have h2 := HLT.out; omega
    · obtain rfl : i = l.length := by omega
      have hln : (nums ns).length = ns.length := by simp [nums]
      rw [← HNL.out, ← hln, List.take_length, hln, Nat.sub_self, List.replicate_zero, List.append_nil] at hbN
      have HBN := Lib.hid hbN
      clear hbN hln
      go_wp2
      go_ret3
      refine ⟨gN, ?_, hgN0, HBN.out, hbl⟩
      rw [HNL.out]
      rfl
end Go.Proofs.YthgekjkgfccnaaaGreat

namespace Go.Proofs.YthgekjkgfccnaaaGreat
open Go.RowKit Num

def QuietB (w : World) (b : Bool) (e : Ending) (w' : World) : Prop := e = .returned (.bool b) ∧ ∃ n, w' = w.drewN n
set_option maxHeartbeats 400000 in
set_option maxRecDepth 100000 in
theorem same_t (A B : Option Addr) (c d L : Nat) (l : List Int) (w : World) (hA : Ints w A l) (hB : Ints w B l) (hL : L = l.length) (hl : L ≤ 1000000) :
    Calls Tryz.prog 54 #[.slice A L c, .slice B L d] w (QuietB w true) := by
  have HL := Lib.hid hL
  have HA := Lib.hid hA
  have HB := Lib.hid hB
  clear hL hA hB
  go_enter Tryz.func54, Tryz.ntmps54
  go_wp2
  go_loopw [5] (fun t wr => ∃ k n : Nat, k ≤ L ∧ t = .int .i64 (k : Int) ∧ wr = w.drewN n) (fun t _ => L - (intOf t).toNat)
  case atStart => exact ⟨0, 0, Nat.zero_le _, rfl, rfl⟩
  case round =>
    obtain ⟨k, n, hk, rfl, rfl⟩ := hrel
    by_cases hlt : k < L
    · have hkl : k < l.length := by have := HL.out; omega
      obtain ⟨g, off, x, rfl, hg, hx, hc⟩ := Ints.at_ HA.out (i := k) hkl
      obtain ⟨g', off', y, rfl, hg', hy, hc'⟩ := Ints.at_ HB.out (i := k) hkl
      have hxy : y = x := by rw [hx] at hy; injection hy with hy; exact hy.symm
      subst hxy
      have hi1 : IntKind.i64.wrap ((k : Int) + 1) = (k : Int) + 1 := wrapI (by omega) (by omega)
      clear hx hy
      go_wp2_with (fail)
      go_quiet (fail)
      go_wp2
      go_roundw
      case rel => exact ⟨k + 1, _, by omega, by go_num, rfl⟩
      case measure => simp [intOf]; omega
    · obtain rfl : k = L := by omega
      go_wp2
      go_ret
      exact ⟨rfl, n, rfl⟩

theorem lives_pull : pullN 7800 300 3000 440000 = 38426 := by decide +kernel
theorem lives_pc : pcErr [6, 4, 5, 5] 10 = 0 := by decide +kernel
set_option maxHeartbeats 1000000 in
set_option maxRecDepth 100000 in
theorem lives_any (w : World) : Calls Tryz.prog 21 #[] w (LivesPost w) := by
  have h1 := fun w1 => Tension_ok 7800 300 3000 440000 w1 ⟨by omega, by omega⟩ ⟨by omega, by omega⟩ ⟨by omega, by omega⟩ ⟨by omega, by omega⟩
  rw [lives_pull] at h1
  have h2 := fun w1 => coils_ok (some ⟨w1.heap.size, 0, none⟩) 4 [6, 4, 5, 5] [0, 0, 1, 1] 10 1 _ (ints_new w1 [6, 4, 5, 5]) (by simp) lives_pc (by simp) (by simp) (by intro p hp; simp at hp; omega) (by omega) lives_last (by simp) lives_greedy
  have hb := fun w1 => below_new w1 (.cells (is [6, 4, 5, 5]).toArray 3)
  have hs := fun g w1 (h : Ints w1 (some ⟨g, 0, none⟩) [0, 0, 1, 1]) => same_t (some ⟨g, 0, none⟩) (some ⟨w1.heap.size, 0, none⟩) 4 4 4 [0, 0, 1, 1] (w1.alloc (.cells (is [0, 0, 1, 1]).toArray 3)) (h.alloc _) (ints_new w1 [0, 0, 1, 1]) rfl (by omega)
  have hb2 := fun w1 => below_new w1 (.cells (is [0, 0, 1, 1]).toArray 3)
  have H1 := Lib.hid h1
  have H2 := Lib.hid h2
  have HB := Lib.hid hb
  have HS := Lib.hid hs
  have HB2 := Lib.hid hb2
  clear h1 h2 hb hs hb2
  go_enter Tryz.func21, Tryz.ntmps21
  go_wp2_with (fail)
  refine (H1.out _).mono ?_
  rintro e w1 ⟨rfl, hb1⟩
  go_wp2_with (fail)
  refine (H2.out w1).mono ?_
  rintro e w2 ⟨g, rfl, hg, hbk, hb2⟩
  have b2 := below_on (below_on hb1 hb1.size (HB.out w1)) (Nat.le_trans hb1.size (HB.out w1).size) hb2
  have HC := Lib.hid (HS.out g w2 hbk.vals0)
  go_wp2_with (fail)
  refine (HC.out).mono ?_
  rintro e w3 ⟨rfl, n, rfl⟩
  go_wp2
  go_ret
  exact ⟨rfl, below_drewN (below_on b2 b2.size (HB2.out w2)) n⟩
end Go.Proofs.YthgekjkgfccnaaaGreat

namespace Go.Proofs.YthgekjkgfccnaaaGreat
open Go.RowKit Num

theorem fold_any (v m : Int) (h0 : 0 < m) (hm : m ≤ 1000000000) (w : World) : Calls Tryz.prog 38 #[.int .i64 v, .int .i64 m] w fun e w' => e = .returned (.int .i64 (v % m + 1)) ∧ w = w' := by
  have h1 : v.tmod m = if 0 ≤ v ∨ m ∣ v then v % m else v % m - m := by
    rw [Int.tmod_eq_emod]
    split
    · simp
    · rw [Int.natAbs_of_nonneg (by omega)]
  have h2 := Int.emod_nonneg v (show m ≠ 0 by omega)
  have h3 := Int.emod_lt_of_pos v h0
  obtain ⟨q, hq⟩ : ∃ q, v.tmod m = q := ⟨_, rfl⟩
  obtain ⟨r, hr⟩ : ∃ r, v % m = r := ⟨_, rfl⟩
  have hb : -m < q ∧ q < m := by
    rw [← hq, h1]
    split <;> omega
  have h4 : (q + m).tmod m = r := by
    rw [Int.tmod_eq_emod_of_nonneg (by omega), ← hr]
    rw [← hq, h1]
    split
    · rw [Int.add_emod_right, Int.emod_emod_of_dvd _ (Int.dvd_refl m)]
    · rw [Int.sub_add_cancel, Int.emod_emod_of_dvd _ (Int.dvd_refl m)]
  have h5 : (q + m) % m = r := by rw [← h4, Int.tmod_eq_emod_of_nonneg (by omega)]
  rw [hr] at h1 h2 h3 ⊢
  have h6 : wrap64 (q + m) = q + m := by unfold wrap64; omega
  have h7 : IntKind.i64.wrap (q + m) = q + m := wrapI (by omega) (by omega)
  have h8 : wrap64 (r + 1) = r + 1 := by unfold wrap64; omega
  have h9 : IntKind.i64.wrap (r + 1) = r + 1 := wrapI (by omega) (by omega)
  have hz : ¬ m = 0 := by omega
  have g1 : 0 ≤ q + m := by omega
  clear hr h1
  go_enter Tryz.func38, Tryz.ntmps38
  go_wp2
  go_ret
  exact ⟨rfl, rfl⟩
theorem fold_nat (v m : Int) (h0 : 0 < m) (hm : m ≤ 1000000000) : ∃ d : Nat, 1 ≤ d ∧ (d : Int) ≤ m ∧ ∀ w, Calls Tryz.prog 38 #[.int .i64 v, .int .i64 m] w fun e w' => e = .returned (.int .i64 (d : Int)) ∧ w = w' := by
  have h2 := Int.emod_nonneg v (show m ≠ 0 by omega)
  have h3 := Int.emod_lt_of_pos v h0
  refine ⟨(v % m + 1).toNat, by omega, by omega, fun w => ?_⟩
  have := fold_any v m (by omega) (by omega) w
  rwa [show (((v % m + 1).toNat : Nat) : Int) = v % m + 1 by omega]
end Go.Proofs.YthgekjkgfccnaaaGreat

namespace Go.Proofs.YthgekjkgfccnaaaGreat
open Go.RowKit Num

theorem OwnLs.n32 {B : Nat} {w : World} {v : Value} {n : Nat} (h : OwnLs B w v (dig B32 n)) (hl : (dig B32 n).length ≤ 1000000000000) : N32 w v n := (h.limbs hl).is
theorem refMul_s (a b : Value) (m n : Nat) (w : World) (ha : N32 w a m) (hb : N32 w b n) (hm : Sml m) (hn : Sml n) (hp : Sml (m * n)) : Calls Tryz.prog 50 #[a, b] w (N32Post w (m * n)) :=
  (refMul_call a b m n w ha hb (by have := hm.len; omega) (by have := hn.len; omega)).mono fun _ _ ⟨v, e, hv, hb⟩ => ⟨v, e, hv.n32 (by have := hp.len; omega), hb⟩
theorem refOf_s (n : Nat) (w : World) (hn : n < 18446744073709551616) : Calls Tryz.prog 51 #[.int .u64 (n : Int)] w (N32Post w n) :=
  (refOf_any n (by unfold B64; exact hn) w).mono fun _ _ ⟨v, e, hv, hb⟩ => ⟨v, e, hv.n32 (by have := (sml_of (n := n) (k := 18446744073709551616) hn (by decide)).len; omega), hb⟩
theorem N32Post.keep {w : World} {v : Value} {n : Nat} (h : N32 w v n) {w' : World} (hb : Below w.heap.size w w') : N32 w' v n := IsNum.keep h hb

set_option maxHeartbeats 1000000 in
set_option maxRecDepth 100000 in
theorem refProduct_any (A : Option Addr) (cp L : Nat) (l : List Nat) (w : World) (hA : Ints w A (numI l)) (hL : L = l.length) (hl : l.length ≤ 100) (h1 : ∀ x ∈ l, 1 ≤ x) (hx : ∀ x ∈ l, x < 9223372036854775808) (hs0 : Sml (prodN l)) :
    Calls Tryz.prog 48 #[.slice A L cp] w (N32Post w (prodN l)) := by
  have hs : ∀ k, k ≤ l.length → Sml (prodN (l.take k)) := fun k _ => hs0.le (prodN_take_le h1 k)
  have hof := fun n w1 (h : n < 18446744073709551616) => refOf_s n w1 h
  have htm := fun a b m n w1 (h : N32 w1 a m) (k : N32 w1 b n) (h1 : Sml m) (h2 : Sml n) (h3 : Sml (m * n)) => refMul_s a b m n w1 h k h1 h2 h3
  have HO1 := Lib.hid (hof 1 w (by omega))
  have HOF := Lib.hid hof
  have HTM := Lib.hid htm
  have HA := Lib.hid hA
  have HL := Lib.hid hL
  have HS := Lib.hid hs
  have HX := Lib.hid hx
  clear hof htm hA hL hs hx h1 hs0
  go_enter Tryz.func48, Tryz.ntmps48
  go_wp2_with (fail)
  refine (HO1.out).mono ?_
  rintro e w1 ⟨v, rfl, hv, hb1⟩
  go_wp2
  go_loopw [3, 4] (fun p t wr => ∃ k : Nat, k ≤ L ∧ t = .int .i64 (k : Int) ∧ N32 wr p (prodN (l.take k)) ∧ Below w.heap.size w wr) (fun _ t _ => L - (intOf t).toNat)
  case atStart => exact ⟨0, Nat.zero_le _, rfl, hv, hb1⟩
  case round =>
    clear hv hb1
    obtain ⟨k, hk, rfl, hp, hbl⟩ := hrel
    by_cases hlt : k < L
    · have hkl : k < l.length := by have := HL.out; omega
      obtain ⟨x, hx⟩ : ∃ x, l[k]? = some x := ⟨l[k], List.getElem?_eq_getElem hkl⟩
      obtain ⟨g, off, y, rfl, hg, hy, hc⟩ := Ints.at_ (HA.out.keep hbl) (i := k) (by simp [numI]; exact hkl)
      have hyx : y = (x : Int) := by rw [numI_at hx] at hy; injection hy with hy; exact hy.symm
      subst hyx
      have hsn := prodN_snoc hx
      have hx1 := HX.out x (List.mem_of_getElem? hx)
      have hs1 := HS.out k (by omega)
      have hs2 := HS.out (k + 1) (by omega)
      rw [hsn] at hs2
      have HSN := Lib.hid hsn
      clear hsn hx hy
      generalize prodN (l.take k) = m at *
      have hcv : IntKind.u64.wrap (x : Int) = (x : Int) := by rw [IntKind.wrap_u64]; omega
      have hi1 : IntKind.i64.wrap ((k : Int) + 1) = (k : Int) + 1 := wrapI (by omega) (by omega)
      have HC := Lib.hid (HOF.out x wr (by omega))
      go_wp2_with (fail)
      refine (HC.out).mono ?_
      rintro e w2 ⟨u, rfl, hu, hb2⟩
      have HD := Lib.hid (HTM.out u3 u m x w2 (N32Post.keep hp hb2) hu hs1 (sml_i64 hx1) hs2)
      go_wp2_with (fail)
      refine (HD.out).mono ?_
      rintro e w3 ⟨u', rfl, hu', hb3⟩
      go_wp2
      go_roundw
      case rel => exact ⟨k + 1, by omega, by go_num, by rw [HSN.out]; exact hu', below_on (below_on hbl hbl.size hb2) (Nat.le_trans hbl.size hb2.size) hb3⟩
      case measure => simp [intOf]; omega
    · obtain rfl : k = L := by omega
      have hp2 : N32 wr u3 (prodN l) := by have := hp; rwa [HL.out, List.take_length] at this
      have HP := Lib.hid hp2
      clear hp hp2
      go_wp2
      go_ret
      exact ⟨_, rfl, HP.out, hbl⟩
set_option maxHeartbeats 1000000 in
set_option maxRecDepth 100000 in
theorem refTen_any (k : Nat) (w : World) (hk : k ≤ 30) : Calls Tryz.prog 49 #[.int .i64 (k : Int)] w (N32Post w (10 ^ k)) := by
  have hof := refOf_s 10 w (by omega)
  have hpw := fun b w1 (h : N32 w1 b 10) => refPow_any b 10 k w1 h (by have := (sml_i64 (n := 10) (by omega)).len; omega) (by omega) (fun j hj => by have := (pow10_sml (k := j) (by omega)).len; omega)
  have HOF := Lib.hid hof
  have HPW := Lib.hid hpw
  clear hof hpw
  go_enter Tryz.func49, Tryz.ntmps49
  go_wp2_with (fail)
  refine (HOF.out).mono ?_
  rintro e w1 ⟨v, rfl, hv, hb1⟩
  have HCC := Lib.hid (HPW.out v w1 hv)
  go_wp2_with (fail)
  refine (HCC.out).mono ?_
  rintro e w2 ⟨u, rfl, hu, hb2⟩
  go_wp2
  go_ret
  exact ⟨_, rfl, hu, below_on hb1 hb1.size hb2⟩
theorem prod2 (a b : Nat) : prodN [a, b] = a * b := by simp [prodN]
set_option maxHeartbeats 2000000 in
set_option maxRecDepth 100000 in
theorem refHolds_any (d s l f sf : Nat) (w : World) (hd : InD d) (hs : InS s) (hl : InL l) (hf : InF f) (hp : InP sf) : Calls Tryz.prog 20 #[.int .i64 (d : Int), .int .i64 (s : Int), .int .i64 (l : Int), .int .i64 (f : Int), .int .i64 (sf : Int)] w (BoolPost w (holdN d s l f sf)) := by
  have hle := stress_le (c := 400) (by omega) hd hl hf
  have hsm : Sml (prodN [400, d, l, l, f, f]) := sml_of (k := 12000000000000000000000000000000001) (Nat.lt_of_le_of_lt hle (by decide)) (by decide)
  have hpr := refProduct_any (some ⟨w.heap.size, 0, none⟩) 6 6 [400, d, l, l, f, f] _ (ints_new w _) rfl (by simp) (by simp; have := hd.lo; have := hl.lo; have := hf.lo; omega) (by simp; have := hd.hi; have := hl.hi; have := hf.hi; omega) hsm
  have hba := below_new w (.cells (is (numI [400, d, l, l, f, f])).toArray 3)
  have hst := strength_sml hs hp
  have hp2 : Sml (prodN [sf, s]) := by rw [prod2]; exact sml_i64 (by omega)
  have hpr2 := fun w1 => refProduct_any (some ⟨w1.heap.size, 0, none⟩) 2 2 [sf, s] _ (ints_new w1 _) rfl (by simp) (by simp; have := hs.lo; have := hp.lo; omega) (by simp; have := hs.hi; have := hp.hi; omega) hp2
  have hba2 := fun w1 => below_new w1 (.cells (is (numI [sf, s])).toArray 3)
  have htn := fun w1 => refTen_any 20 w1 (by omega)
  have hsm2 : Sml (prodN [sf, s] * 10 ^ 20) := by rw [prod2, Nat.mul_comm]; exact strength_sml2 hst
  have hml := fun a b w1 (h : N32 w1 a (prodN [sf, s])) (k : N32 w1 b (10 ^ 20)) => refMul_s a b _ _ w1 h k hp2 (pow10_sml (by omega)) hsm2
  have hcm := fun a b w1 (h : N32 w1 a (prodN [400, d, l, l, f, f])) (k : N32 w1 b (prodN [sf, s] * 10 ^ 20)) => refCmp_call a b _ _ w1 h k (by have := hsm.len; omega) (by have := hsm2.len; omega)
  have hcl : decide (cmpN (prodN [400, d, l, l, f, f]) (prodN [sf, s] * 10 ^ 20) ≤ 0) = holdN d s l f sf := by rw [cmp_le, prod2, Nat.mul_comm (sf * s)]; rfl
  generalize cmpN (prodN [400, d, l, l, f, f]) (prodN [sf, s] * 10 ^ 20) = c at *
  have Hpr := Lib.hid hpr
  have Hba := Lib.hid hba
  have Hpr2 := Lib.hid hpr2
  have Hba2 := Lib.hid hba2
  have Htn := Lib.hid htn
  have Hml := Lib.hid hml
  have Hcm := Lib.hid hcm
  have Hcl := Lib.hid hcl
  clear hpr hba hpr2 hba2 htn hml hcm hcl hle hsm hsm2 hp2 hst
  go_enter Tryz.func20, Tryz.ntmps20
  go_wp2_with (fail)
  refine (Hpr.out).mono ?_
  rintro e w1 ⟨v1, rfl, hv1, hb1⟩
  have b1 := below_on Hba.out Hba.out.size hb1
  go_wp2_with (fail)
  refine (Hpr2.out w1).mono ?_
  rintro e w2 ⟨v2, rfl, hv2, hb2⟩
  have k2 := below_on (Hba2.out w1) (Hba2.out w1).size hb2
  have b2 := below_on b1 b1.size k2
  go_wp2_with (fail)
  refine (Htn.out w2).mono ?_
  rintro e w3 ⟨v3, rfl, hv3, hb3⟩
  have b3 := below_on b2 b2.size hb3
  have HD := Lib.hid (Hml.out v2 v3 w3 (N32Post.keep hv2 hb3) hv3)
  go_wp2_with (fail)
  refine (HD.out).mono ?_
  rintro e w4 ⟨v4, rfl, hv4, hb4⟩
  have b4 := below_on b3 b3.size hb4
  have HE := Lib.hid (Hcm.out v1 v4 w4 (N32Post.keep (N32Post.keep (N32Post.keep hv1 k2) hb3) hb4) hv4)
  go_wp2_with (fail)
  refine (HE.out).mono ?_
  rintro e w5 ⟨rfl, hb5⟩
  go_wp2
  go_ret
  exact ⟨by rw [← Hcl.out]; rfl, below_on b4 b4.size hb5⟩
end Go.Proofs.YthgekjkgfccnaaaGreat

namespace Go.Proofs.YthgekjkgfccnaaaGreat
open Go.RowKit Num

/-- Division by a small number from the top down: the limbs from k on are done. -/
structure OverSt (xs zs : List Nat) (v k l : Nat) : Prop where
  len : zs.length = xs.length
  low : Low B32 zs
  lt : l < v
  eq : val B32 (xs.drop k) = v * val B32 (zs.drop k) + l
theorem OverSt.start (xs : List Nat) {v : Nat} (hv : 0 < v) : OverSt xs (List.replicate xs.length 0) v xs.length 0 :=
  ⟨by simp, Low.replicate b32_pos _, hv, by simp [val]⟩
theorem OverSt.step {xs zs : List Nat} {v k l x q r : Nat} (h : OverSt xs zs v (k + 1) l) (hx : xs[k]? = some x) (hs : l * B32 + x = v * q + r) (hq : q < B32) (hr : r < v) : OverSt xs (zs.set k q) v k r := by
  have hk : k < xs.length := (List.getElem?_eq_some_iff.1 hx).1
  have hxe : xs[k] = x := (List.getElem?_eq_some_iff.1 hx).2
  have hkz : k < (zs.set k q).length := by rw [List.length_set, h.len]; exact hk
  refine ⟨by rw [List.length_set]; exact h.len, h.low.set hq, hr, ?_⟩
  rw [List.drop_eq_getElem_cons hk, List.drop_eq_getElem_cons hkz, hxe, List.getElem_set_self, List.drop_set_of_lt (by omega)]
  simp only [val]
  rw [h.eq]
  grind
theorem OverSt.fin {xs zs : List Nat} {v l : Nat} (h : OverSt xs zs v 0 l) : val B32 zs = val B32 xs / v ∧ val B32 xs % v = l := by
  have e := h.eq
  simp only [List.drop_zero] at e
  have hl := h.lt
  rw [e, Nat.mul_add_div (by omega), Nat.div_eq_of_lt hl, Nat.mul_add_mod, Nat.mod_eq_of_lt hl]
  simp

theorem over_ex (l x v : Nat) (hl : l < v) (hx : x < B32) (hv : v < B32) : ∃ p s q r : Nat,
    IntKind.u64.wrap ((l : Int) * 4294967296) = (p : Int) ∧ IntKind.u64.wrap (x : Int) = (x : Int) ∧ IntKind.u64.wrap (v : Int) = (v : Int) ∧ IntKind.u64.wrap ((p : Int) + (x : Int)) = (s : Int) ∧
    (s : Int) / (v : Int) = (q : Int) ∧ (s : Int).tdiv (v : Int) = (q : Int) ∧ (s : Int) % (v : Int) = (r : Int) ∧ (s : Int).tmod (v : Int) = (r : Int) ∧
    IntKind.u64.wrap (q : Int) = (q : Int) ∧ IntKind.u64.wrap (r : Int) = (r : Int) ∧ IntKind.u32.wrap (q : Int) = (q : Int) ∧ (q : Int) % 4294967296 = (q : Int) ∧ IntKind.u32.wrap (r : Int) = (r : Int) ∧ (r : Int) % 4294967296 = (r : Int) ∧
    ((v : Int) == 0) = false ∧ l * B32 + x = v * q + r ∧ q < B32 ∧ r < v := by
  have hlt : l * B32 + x < v * B32 := by
    have : (l + 1) * B32 ≤ v * B32 := Nat.mul_le_mul_right _ hl
    rw [Nat.add_mul] at this
    omega
  have hle : v * B32 ≤ B32 * B32 := Nat.mul_le_mul_right _ (by omega)
  have hq : (l * B32 + x) / v < B32 := Nat.div_lt_of_lt_mul hlt
  have hr : (l * B32 + x) % v < v := Nat.mod_lt _ (by omega)
  have hd := Nat.div_add_mod (l * B32 + x) v
  obtain ⟨q, hqe⟩ : ∃ q, (l * B32 + x) / v = q := ⟨_, rfl⟩
  obtain ⟨r, hre⟩ : ∃ r, (l * B32 + x) % v = r := ⟨_, rfl⟩
  have c1 : ((l * B32 + x : Nat) : Int) / (v : Int) = (q : Int) := by rw [← hqe]; exact (Int.natCast_ediv _ _).symm
  have c2 : ((l * B32 + x : Nat) : Int) % (v : Int) = (r : Int) := by rw [← hre]; exact (Int.natCast_emod _ _).symm
  rw [hqe] at hq hd
  rw [hre] at hr hd
  have hpv : (l : Int) * 4294967296 = ((l * B32 : Nat) : Int) := by unfold B32; omega
  have hp : l * B32 + x < B32 * B32 := by omega
  clear hqe hre
  refine ⟨l * B32, l * B32 + x, q, r, ?_, ?_, ?_, ?_, c1, ?_, c2, ?_, ?_, ?_, ?_, ?_, ?_, ?_, ?_, hd.symm, hq, hr⟩
  · rw [IntKind.wrap_u64]; unfold B32 at *; omega
  · rw [IntKind.wrap_u64]; unfold B32 at *; omega
  · rw [IntKind.wrap_u64]; unfold B32 at *; omega
  · rw [IntKind.wrap_u64]; unfold B32 at *; omega
  · rw [Int.tdiv_eq_ediv_of_nonneg (by omega)]; exact c1
  · rw [Int.tmod_eq_emod_of_nonneg (by omega)]; exact c2
  all_goals clear c1 c2 hd hp hpv hle hlt
  · rw [IntKind.wrap_u64]; unfold B32 at *; omega
  · rw [IntKind.wrap_u64]; unfold B32 at *; omega
  · rw [IntKind.wrap_u32']; unfold B32 at *; omega
  · unfold B32 at *; omega
  · rw [IntKind.wrap_u32']; unfold B32 at *; omega
  · unfold B32 at *; omega
  · simp; omega

def OverPost (w : World) (ys : List Nat) (r : Nat) (e : Ending) (w' : World) : Prop := ∃ v, e = .returned (.tuple #[v, .int .u32 (r : Int)]) ∧ OwnLs w.heap.size w' v ys ∧ Below w.heap.size w w'

end Go.Proofs.YthgekjkgfccnaaaGreat

namespace Go.Proofs.YthgekjkgfccnaaaGreat
open Go.RowKit Num

set_option maxHeartbeats 1000000 in
set_option maxRecDepth 100000 in
theorem times_any (a : Value) (m v : Nat) (w : World) (ha : N32 w a m) (hm : (dig B32 m).length ≤ 1000) (hv : v < B32) : Calls Tryz.prog 100 #[a, .int .u32 (v : Int)] w (LsPost w (dig B32 (m * v))) := by
  have hv64 : v < B64 := by unfold B32 at hv; unfold B64; omega
  have hof := refOf_any v hv64 w
  have w1 : IntKind.u64.wrap (v : Int) = (v : Int) := by unfold B32 at hv; rw [IntKind.wrap_u64]; omega
  have hl2 := len_u64 hv64
  have hmul := fun b w' (h : Below w.heap.size w w') (k : OwnLs w.heap.size w' b (dig B32 v)) => refMul_call a b m v w' (ha.keep h) (k.limbs (by omega)).is (by omega) (by omega)
  have HOF := Lib.hid hof
  have HM := Lib.hid hmul
  clear hof hmul hv hv64 ha hl2
  go_enter Tryz.func100, Tryz.ntmps100
  go_wp2_with (first
    | (go_at_call 51; refine HOF.out.mono ?_; rintro e w2 ⟨v2, rfl, hv2, hb2⟩)
    | (go_at_call 50; refine (HM.out _ _ hb2 hv2).mono ?_; rintro e w3 ⟨v3, rfl, hv3, hb3⟩))
  go_ret
  exact ⟨_, rfl, hv3.mono hb2.size, below_at hb2 (Nat.le_refl _) hb3⟩

theorem zeros_snoc (k : Nat) : ints .u32 (List.replicate k 0) ++ [.int .u32 0] = ints .u32 (List.replicate (k + 1) 0) := by
  rw [List.replicate_succ']; simp [ints]
theorem take_snoc_ints {xs : List Nat} {k v : Nat} (zs : List Nat) (h : xs[k]? = some v) : ints .u32 (zs ++ xs.take k) ++ [.int .u32 (v : Int)] = ints .u32 (zs ++ xs.take (k + 1)) := by
  obtain ⟨hk, he⟩ := List.getElem?_eq_some_iff.1 h
  rw [List.take_succ_eq_append_getElem hk, he]; simp [ints]
theorem two_pow_32 {k : Nat} (h : k < 32) : 2 ^ k < B32 := by
  have := Nat.pow_lt_pow_right (a := 2) (by omega) h
  unfold B32; simpa using this
theorem dbl_ex (k : Nat) (h : k + 1 < 32) : ∃ p q : Nat, 2 ^ k = p ∧ 2 ^ (k + 1) = q ∧ IntKind.u32.wrap ((p : Int) * 2) = (q : Int) ∧ ((p : Int) * 2) % 4294967296 = (q : Int) := by
  have h1 := two_pow_32 h
  have h2 : 2 ^ (k + 1) = 2 ^ k * 2 := Nat.pow_succ _ _
  refine ⟨_, _, rfl, rfl, ?_, ?_⟩
  · unfold B32 at h1; rw [IntKind.wrap_u32', h2]; omega
  · unfold B32 at h1; rw [h2]; omega

theorem ownLs_of {B n : Nat} {w : World} {v : Value} {zs : List Nat} (h : w.ownsRow B 106 1 v n (ints .u32 zs)) (hn : zs.length = n) : OwnLs B w v zs := by
  subst hn; exact h

def PowIs (p k : Nat) : Prop := p = 2 ^ k
theorem powIs_step {p k : Nat} (h : PowIs p k) (hk : k + 1 < 32) : ∃ q : Nat, PowIs q (k + 1) ∧ IntKind.u32.wrap ((p : Int) * 2) = (q : Int) ∧ ((p : Int) * 2) % 4294967296 = (q : Int) := by
  obtain ⟨p', q, e1, e2, e3, e4⟩ := dbl_ex k hk
  obtain rfl : p = p' := h.trans e1
  exact ⟨q, e2.symm, e3, e4⟩

theorem right_val (m wh s : Nat) : m / 2 ^ (32 * wh + s) = val B32 ((dig B32 m).drop wh) / 2 ^ s := by
  have h32 : B32 ^ wh = 2 ^ (32 * wh) := by rw [Nat.pow_mul]; rfl
  have hv : val B32 ((dig B32 m).drop wh) = m / B32 ^ wh := by
    by_cases hl : wh ≤ (dig B32 m).length
    · have h1 := val_take_drop B32 (dig B32 m) wh hl
      rw [val_dig b32_two] at h1
      have h2 := val_lt B32 _ ((low_dig b32_two m).take wh)
      rw [List.length_take, Nat.min_eq_left hl] at h2
      rw [h1, Nat.add_mul_div_left _ _ (Nat.pow_pos b32_pos), Nat.div_eq_of_lt h2, Nat.zero_add, ← h1]
    · rw [List.drop_of_length_le (by omega)]
      have h1 := dig_len_lt b32_two (n := m)
      have h2 : B32 ^ (dig B32 m).length ≤ B32 ^ wh := Nat.pow_le_pow_right b32_pos (by omega)
      rw [Nat.div_eq_of_lt (by omega)]; rfl
  rw [hv, Nat.pow_add, h32, Nat.div_div_eq_div_mul]
theorem drop_snoc_ints {xs : List Nat} {wh k v : Nat} (h : xs[wh + k]? = some v) : ints .u32 ((xs.drop wh).take k) ++ [.int .u32 (v : Int)] = ints .u32 ((xs.drop wh).take (k + 1)) := by
  have h2 : (xs.drop wh)[k]? = some v := by rw [List.getElem?_drop]; exact h
  obtain ⟨hk, he⟩ := List.getElem?_eq_some_iff.1 h2
  rw [List.take_succ_eq_append_getElem hk, he]; simp [ints]

end Go.Proofs.YthgekjkgfccnaaaGreat

namespace Go.Proofs.YthgekjkgfccnaaaGreat
open Go.RowKit Num

structure SubOut (xs ys : List Nat) (k : Nat) (os : List Nat) (c : Nat) : Prop where
  len : os.length = k
  low : Low B32 os
  le : c ≤ 1
  eq : val B32 os + val B32 (ys.take k) = val B32 (xs.take k) + B32 ^ k * c
theorem SubOut.start (xs ys : List Nat) : SubOut xs ys 0 [] 0 := ⟨rfl, Low.nil _, by omega, by simp [val]⟩
theorem SubOut.step {xs ys os : List Nat} {k c lo hi : Nat} (h : SubOut xs ys k os c) (hs : lo + ys.getD k 0 + c = xs.getD k 0 + B32 * hi) (hlo : lo < B32) (hhi : hi ≤ 1) :
    SubOut xs ys (k + 1) (os ++ [lo]) hi := by
  refine ⟨by simp [h.len], h.low.append (Low.cons hlo (Low.nil _)), hhi, ?_⟩
  rw [val_snoc, val_take_getD, val_take_getD, h.len]
  have e := h.eq
  have : B32 ^ k * (lo + ys.getD k 0 + c) = B32 ^ k * (xs.getD k 0 + B32 * hi) := by rw [hs]
  rw [Nat.pow_succ]
  grind
theorem SubOut.fin {xs ys os : List Nat} {k c : Nat} (h : SubOut xs ys k os c) (hx : xs.length ≤ k) (hy : ys.length ≤ k) (hle : val B32 ys ≤ val B32 xs) (hylow : Low B32 ys) : val B32 os = val B32 xs - val B32 ys := by
  have e := h.eq
  rw [List.take_of_length_le hx, List.take_of_length_le hy] at e
  have h1 := val_lt B32 os h.low
  rw [h.len] at h1
  have h5 : c = 0 := by
    rcases Nat.eq_zero_or_pos c with h0 | h0
    · exact h0
    · have : B32 ^ k * 1 ≤ B32 ^ k * c := Nat.mul_le_mul_left _ h0
      have h2 := val_lt B32 ys hylow
      have h3 : B32 ^ ys.length ≤ B32 ^ k := Nat.pow_le_pow_right b32_pos hy
      omega
  subst h5
  simp at e
  omega

theorem sub3_ex (x y c : Nat) (hx : x < B32) (hy : y < B32) (hc : c ≤ 1) : ∃ s1 s2 s lo q hi : Nat,
    IntKind.u64.wrap (4294967296 + (x : Int)) = (s1 : Int) ∧ IntKind.u64.wrap ((s1 : Int) - (y : Int)) = (s2 : Int) ∧ IntKind.u64.wrap ((s2 : Int) - (c : Int)) = (s : Int) ∧ (s : Int) % 4294967296 = (lo : Int) ∧ (s : Int) / 4294967296 = (q : Int) ∧
    IntKind.u32.wrap (lo : Int) = (lo : Int) ∧ (lo : Int) % 4294967296 = (lo : Int) ∧ IntKind.u64.wrap (q : Int) = (q : Int) ∧ IntKind.u64.wrap (1 - (q : Int)) = (hi : Int) ∧ lo + y + c = x + B32 * hi ∧ lo < B32 ∧ hi ≤ 1 := by
  unfold B32 at *
  refine ⟨4294967296 + x, 4294967296 + x - y, 4294967296 + x - y - c, (4294967296 + x - y - c) % 4294967296, (4294967296 + x - y - c) / 4294967296, 1 - (4294967296 + x - y - c) / 4294967296, ?_, ?_, ?_, by omega, by omega, ?_, by omega, ?_, ?_, by omega, by omega, by omega⟩
  · rw [IntKind.wrap_u64]; omega
  · rw [IntKind.wrap_u64]; omega
  · rw [IntKind.wrap_u64]; omega
  · rw [IntKind.wrap_u32']; omega
  · rw [IntKind.wrap_u64]; omega
  · rw [IntKind.wrap_u64]; omega

set_option maxHeartbeats 2000000 in
set_option maxRecDepth 100000 in
theorem refSub_any (A A' : Option Addr) (c c' L L' : Nat) (xs ys : List Nat) (w : World) (hA : Nums .u32 w A xs) (hA' : Nums .u32 w A' ys) (hx : Low B32 xs) (hy : Low B32 ys) (hL : L = xs.length) (hL' : L' = ys.length)
    (hl : L ≤ 1000000) (hle' : L' ≤ L) (hle : val B32 ys ≤ val B32 xs) : Calls Tryz.prog 102 #[.slice A L c, .slice A' L' c'] w (LsPost w (dig B32 (val B32 xs - val B32 ys))) := by
  obtain ⟨i0, hi, hz0, hz1, hz2⟩ := info_parts info106
  have ho := own_empty w 106
  have hbA := below_new w (.cells #[] 106)
  have HO := Lib.hid ho
  have HL := Lib.hid hL
  have HL' := Lib.hid hL'
  have HLE := Lib.hid hle
  have HY := Lib.hid hy
  clear ho hL hL' hle
  obtain ⟨ds, hds⟩ : ∃ ds, dig B32 (val B32 xs - val B32 ys) = ds := ⟨_, rfl⟩
  rw [hds]
  have HDS := Lib.hid hds
  clear hds
  go_enter Tryz.func102, Tryz.ntmps102
  go_wp2
  go_loopw [5, 6, 7] (fun out q t wr => ∃ (k cy : Nat) (os : List Nat), k ≤ L ∧ t = .int .i64 (k : Int) ∧ q = .int .u64 (cy : Int) ∧ SubOut xs ys k os cy ∧ wr.ownsRow w.heap.size 106 1 out k (ints .u32 os) ∧ Below w.heap.size w wr) (fun _ _ t _ => L - (intOf t).toNat)
  case atStart => exact ⟨0, 0, [], Nat.zero_le _, rfl, rfl, SubOut.start xs ys, HO.out, hbA⟩
  case round =>
    clear hbA HO
    obtain ⟨k, cy, os, hk, rfl, rfl, hst, hown, hbl⟩ := hrel
    by_cases hlt : k < L
    · have ha := at_any A c L k xs wr (hA.keep hbl) hx HL.out
      have hb := at_any A' c' L' k ys wr (hA'.keep hbl) hy HL'.out
      obtain ⟨s1, s2, s, lo, qq, hi', w1, w2, w3, w4, w5, w6, w7, w8, w9, hs, hlo, hhi⟩ := sub3_ex _ _ cy (getD_low b32_pos hx k) (getD_low b32_pos hy k) hst.le
      have hst' := hst.step hs hlo hhi
      generalize xs.getD k 0 = x at *
      generalize ys.getD k 0 = y at *
      have HA := Lib.hid ha
      have HB := Lib.hid hb
      have HST := Lib.hid hst'
      have HS := Lib.hid hs
      clear ha hb hst' hA hA' hx hy hs hlo hst
      go_wp2_with (fail)
      refine HA.out.mono ?_
      rintro e wq ⟨rfl, rfl⟩
      go_wp2_with (fail)
      refine HB.out.mono ?_
      rintro e wq ⟨rfl, rfl⟩
      go_wp2_with (at_builtin
                   refine wpList_append_own _ rfl _ _ 62 rfl w.heap.size 106 i0 (.int .u32 0) 1 4 Tryz.underlying62 hi hz0 hz1 hz2 rfl (by decide) _ k _ rfl (hown.alloc _) ⟨wr.heap.size, 0, none⟩ 1 1 [.int .u32 (lo : Int)] rfl rfl (cell_one_new _ _ _) (ints_one .u32 [lo]) ?c4 ?c5 (Nat.le_trans hbl.size (by simp)) ?_)
      case c4 => unfold maxLen; omega
      case c5 => omega
      intro v' wv hown1 hgr1 _
      have hb1 : Below w.heap.size w wv := (hbl.alloc hbl.size _).grown hgr1 (Nat.le_trans hbl.size (by simp)) (fun g' hg' => by
        rcases hown.2 with ⟨rfl, _⟩ | ⟨g2, cap, cur, rfl, hg2, _⟩
        · simp [Value.ownBlock] at hg'
        · simp [Value.ownBlock] at hg'; omega)
      have H1 := Lib.hid hown1
      have H0 := Lib.hid hown
      clear hown1 hown
      go_wp2
      go_roundw
      case rel => exact ⟨k + 1, hi', os ++ [lo], by omega, by go_num, rfl, HST.out, by have := H1.out; simpa [ints] using this, hb1⟩
      case measure => simp [intOf]; omega
    · have hkL : k = L := by omega
      subst hkL
      have hst' := hst.fin (by have := HL.out; omega) (by have := HL'.out; omega) HLE.out HY.out
      have hlen2 : os.length = k := hst.len
      have hls : OwnLs w.heap.size wr u5 os := by
        unfold OwnLs
        rw [hlen2]
        exact hown
      have hlim := hls.limbs (by rw [hlen2]; omega)
      have htr := refTrim_l u5 os wr hlim hst.low (by rw [hlen2]; omega)
      rw [hst', HDS.out] at htr
      have HT := Lib.hid htr
      clear htr hlim hls hown hst' hst hA hA' hx hy hlt hlen2 hk
      go_wp2_with (go_at_call 77; refine HT.out.mono ?_; rintro e w9 ⟨v9, rfl, hv9, hb9⟩)
      go_ret
      exact ⟨_, rfl, hv9.mono hbl.size, below_at hbl (Nat.le_refl _) hb9⟩

theorem refSub_call (a b : Value) (m n : Nat) (w : World) (ha : N32 w a m) (hb : N32 w b n) (hm : (dig B32 m).length ≤ 1000000) (hle : n ≤ m) : Calls Tryz.prog 102 #[a, b] w (LsPost w (dig B32 (m - n))) := by
  obtain ⟨A, c, rfl, _, hA⟩ := ha
  obtain ⟨A', c', rfl, _, hA'⟩ := hb
  have := refSub_any A A' c c' _ _ _ _ w hA hA' (low_dig b32_two m) (low_dig b32_two n) rfl rfl hm (dig_len_le b32_two (Nat.lt_of_le_of_lt hle (dig_len_lt b32_two))) (by rw [val_dig b32_two, val_dig b32_two]; exact hle)
  rw [val_dig b32_two, val_dig b32_two] at this
  exact this
end Go.Proofs.YthgekjkgfccnaaaGreat

namespace Go.Proofs.YthgekjkgfccnaaaGreat
open Go.RowKit Num

theorem bit_eq {m i x : Nat} (hx : x = m / B32 ^ (i / 32) % B32) : x / 2 ^ (i % 32) % 2 = m / 2 ^ i % 2 := by
  have e1 : B32 ^ (i / 32) = 2 ^ (32 * (i / 32)) := by rw [Nat.pow_mul]; rfl
  have hs : i % 32 < 32 := Nat.mod_lt _ (by omega)
  have e2 : B32 = 2 ^ (i % 32) * 2 ^ (32 - i % 32) := by rw [← Nat.pow_add, show i % 32 + (32 - i % 32) = 32 by omega]; rfl
  have e3 : 2 ^ (32 - i % 32) = 2 * 2 ^ (31 - i % 32) := by rw [← Nat.pow_succ']; congr 1; omega
  rw [hx, e1, e2, Nat.mod_mul_right_div_self, e3, Nat.mod_mul_right_mod, Nat.div_div_eq_div_mul, ← Nat.pow_add, show 32 * (i / 32) + i % 32 = i by omega]

/-- Halved so often. -/
def HalfIs (v x k : Nat) : Prop := v = x / 2 ^ k
theorem HalfIs.step {v x k : Nat} (h : HalfIs v x k) : HalfIs (v / 2) x (k + 1) := by
  unfold HalfIs at *; rw [h, Nat.div_div_eq_div_mul, ← Nat.pow_succ]

set_option maxHeartbeats 2000000 in
set_option maxRecDepth 100000 in
theorem refBit_any (A : Option Addr) (c L i m : Nat) (w : World) (hA : Nums .u32 w A (dig B32 m)) (hL : L = (dig B32 m).length) (hl : L ≤ 1000000) (hi : i / 32 < L) :
    Calls Tryz.prog 101 #[.slice A L c, .int .i64 (i : Int)] w fun e w' => e = .returned (.int .u32 ((m / 2 ^ i % 2 : Nat) : Int)) ∧ w = w' := by
  obtain ⟨g, off, x, rfl, hg, hxv, hcx⟩ := hA.at_ (i := i / 32) (by omega)
  have hb := bit_eq (dig_getElem? b32_two hxv)
  obtain ⟨r, hr⟩ : ∃ r, m / 2 ^ i % 2 = r := ⟨_, rfl⟩
  rw [hr] at hb ⊢
  have hxl : x < B32 := low_dig b32_two m x (List.mem_of_getElem? hxv)
  obtain ⟨q, s, hq, hs, hs32⟩ : ∃ q s, i / 32 = q ∧ i % 32 = s ∧ s < 32 := ⟨_, _, rfl, rfl, Nat.mod_lt _ (by omega)⟩
  rw [hq] at hcx hi
  rw [hs] at hb
  have e1 : (i : Int) / 32 = (q : Int) := by omega
  have e2 : (i : Int) % 32 = (s : Int) := by omega
  have e3 : (i : Int).tdiv 32 = (q : Int) := by rw [Int.tdiv_eq_ediv_of_nonneg (by omega)]; exact e1
  have e4 : (i : Int).tmod 32 = (s : Int) := by rw [Int.tmod_eq_emod_of_nonneg (by omega)]; exact e2
  have HB := Lib.hid hb
  have hi0 : 0 ≤ (i : Int) := by omega
  have hib : i ≤ 32 * 1000000 := by omega
  generalize hI : (i : Int) = I at *
  have hI2 : I ≤ 32000000 := by omega
  clear hb hr hA hq hs hL hxv hI hib
  go_enter Tryz.func101, Tryz.ntmps101
  go_wp2
  go_loop [5, 6] (fun a t => ∃ k v : Nat, k ≤ s ∧ t = .int .i64 (k : Int) ∧ a = .int .u32 (v : Int) ∧ v < B32 ∧ HalfIs v x k) (fun _ t => s - (intOf t).toNat)
  case atStart => exact ⟨0, x, Nat.zero_le _, rfl, rfl, hxl, by unfold HalfIs; simp⟩
  case round =>
    obtain ⟨k, v, hk, rfl, rfl, hvl, hh⟩ := hrel
    by_cases hlt : k < s
    · have hst := hh.step
      obtain ⟨u, hu⟩ : ∃ u, v / 2 = u := ⟨_, rfl⟩
      rw [hu] at hst
      have w1 : (v : Int) / 2 = (u : Int) := by omega
      have w2 : (v : Int).tdiv 2 = (u : Int) := by rw [Int.tdiv_eq_ediv_of_nonneg (by omega)]; exact w1
      have w3 : IntKind.u32.wrap (u : Int) = (u : Int) := by unfold B32 at hvl; rw [IntKind.wrap_u32']; omega
      have hul : u < B32 := by omega
      have HST := Lib.hid hst
      clear hst hh hu
      go_wp2
      go_round
      case rel => exact ⟨k + 1, u, by omega, by go_num, rfl, hul, HST.out⟩
      case measure => simp [intOf]; omega
    · obtain rfl : k = s := by omega
      have he : v % 2 = r := by rw [hh]; exact HB.out
      have w1 : (v : Int) % 2 = (r : Int) := by omega
      have w2 : (v : Int).tmod 2 = (r : Int) := by rw [Int.tmod_eq_emod_of_nonneg (by omega)]; exact w1
      have w3 : IntKind.u32.wrap (r : Int) = (r : Int) := by rw [IntKind.wrap_u32']; omega
      clear hh hlt he
      go_wp2
      go_ret
      exact ⟨rfl, rfl⟩
theorem refBit_call (a : Value) (m i : Nat) (w : World) (ha : N32 w a m) (hl : (dig B32 m).length ≤ 1000000) (hi : i < nbits m) :
    Calls Tryz.prog 101 #[a, .int .i64 (i : Int)] w fun e w' => e = .returned (.int .u32 ((m / 2 ^ i % 2 : Nat) : Int)) ∧ w = w' := by
  obtain ⟨A, c, rfl, _, hA⟩ := ha
  refine refBit_any A c _ i m w hA rfl hl ?_
  have : nbits m ≤ 32 * (dig B32 m).length := nbits_le (by
    have h1 := dig_len_lt b32_two (n := m)
    have e : B32 ^ (dig B32 m).length = 2 ^ (32 * (dig B32 m).length) := by rw [Nat.pow_mul]; rfl
    omega)
  omega

/-- The bits from k on are divided. -/
structure RefDivSt (m n L k : Nat) (zs : List Nat) (r : Nat) : Prop where
  len : zs.length = L
  low : Low B32 zs
  lt : r < n
  rem : m / 2 ^ k % n = r
  quo : val B32 zs = m / 2 ^ k / n * 2 ^ k
theorem RefDivSt.start {m n L : Nat} (hn : 0 < n) : RefDivSt m n L (nbits m) (List.replicate L 0) 0 := by
  have h : m / 2 ^ nbits m = 0 := Nat.div_eq_of_lt (nbits_lt m)
  exact ⟨by simp, Low.replicate b32_pos _, hn, by rw [h]; simp, by rw [h, val_replicate]; simp⟩
theorem same_rest32 {T P a c : Nat} (h3 : T < P) (hP : 0 < P) (h : T + P * a = P * c) : a = c := by
  have h1 := congrArg (· / P) h
  simp only [Nat.add_mul_div_left _ _ hP, Nat.div_eq_of_lt h3, Nat.mul_div_cancel_left _ hP, Nat.zero_add] at h1
  exact h1
theorem RefDivSt.digit {m n L i z r : Nat} {zs : List Nat} (h : RefDivSt m n L (i + 1) zs r) (hz : zs[i / 32]? = some z) : z + 2 ^ (i % 32) < B32 := by
  have hs : i % 32 < 32 := Nat.mod_lt _ (by omega)
  have hl := h.low z (List.mem_of_getElem? hz)
  have hi : i / 32 < zs.length := (List.getElem?_eq_some_iff.1 hz).1
  have e1 := val_take_drop B32 zs (i / 32) (by omega)
  have e2 : zs.drop (i / 32) = z :: zs.drop (i / 32 + 1) := by rw [List.drop_eq_getElem_cons hi, (List.getElem?_eq_some_iff.1 hz).2]
  have e3 := val_lt B32 _ (h.low.take (i / 32))
  rw [List.length_take, Nat.min_eq_left (by omega)] at e3
  have e4 : B32 ^ (i / 32) = 2 ^ (32 * (i / 32)) := by rw [Nat.pow_mul]; rfl
  have hq := h.quo
  rw [e1, e2] at hq
  generalize m / 2 ^ (i + 1) / n = Q at hq
  have hp : 2 ^ (i + 1) = B32 ^ (i / 32) * (2 ^ (i % 32) * 2) := by rw [e4, ← Nat.pow_succ, ← Nat.pow_add]; congr 1; omega
  rw [hp] at hq
  clear h
  generalize val B32 (zs.take (i / 32)) = T at *
  have e5 : val B32 (z :: zs.drop (i / 32 + 1)) = z + B32 * val B32 (zs.drop (i / 32 + 1)) := rfl
  rw [e5] at hq
  generalize val B32 (zs.drop (i / 32 + 1)) = R at *
  have hP : 0 < B32 ^ (i / 32) := Nat.pow_pos b32_pos
  generalize B32 ^ (i / 32) = P at *
  have e6 : T + P * (z + B32 * R) = P * (Q * (2 ^ (i % 32) * 2)) := by rw [hq]; grind
  have e7 : z + B32 * R = Q * (2 ^ (i % 32) * 2) := by
    have := same_rest32 e3 hP e6
    exact this
  have hB : B32 = 2 ^ (i % 32) * 2 * 2 ^ (31 - i % 32) := by rw [← Nat.pow_succ, ← Nat.pow_add, show i % 32 + 1 + (31 - i % 32) = 32 by omega]; rfl
  have hpp : 0 < 2 ^ (i % 32) := Nat.two_pow_pos _
  generalize 2 ^ (i % 32) = p at *
  generalize 2 ^ (31 - i % 32) = u at *
  have e8 : z = (p * 2) * (Q - u * R) := by
    rw [Nat.mul_sub]
    have : p * 2 * (u * R) = B32 * R := by rw [hB]; grind
    have : p * 2 * Q = Q * (p * 2) := Nat.mul_comm _ _
    omega
  have e9 : Q - u * R < u := by
    refine Nat.lt_of_mul_lt_mul_left (a := p * 2) ?_
    rw [← e8, ← hB]; exact hl
  have e10 := Nat.mul_le_mul_left (p * 2) (show Q - u * R + 1 ≤ u from e9)
  rw [Nat.mul_add, ← e8, ← hB] at e10
  omega
theorem RefDivSt.next {m n L i r : Nat} {zs : List Nat} (h : RefDivSt m n L (i + 1) zs r) : m / 2 ^ i = (m / 2 ^ (i + 1) / n * 2) * n + (r * 2 + m / 2 ^ i % 2) := by
  have e1 := Nat.div_add_mod (m / 2 ^ i) 2
  have e2 : m / 2 ^ i / 2 = m / 2 ^ (i + 1) := by rw [Nat.div_div_eq_div_mul, ← Nat.pow_succ]
  have e3 := Nat.div_add_mod (m / 2 ^ (i + 1)) n
  rw [h.rem] at e3
  rw [e2, ← e3] at e1
  generalize m / 2 ^ (i + 1) / n = Q at *
  generalize m / 2 ^ i % 2 = b at *
  rw [← e1]
  grind
theorem divmod_of {M n q r : Nat} (h : M = q * n + r) (hr : r < n) : M / n = q ∧ M % n = r := by
  subst h
  rw [Nat.mul_comm, Nat.mul_add_div (by omega), Nat.div_eq_of_lt hr, Nat.mul_add_mod, Nat.mod_eq_of_lt hr]
  simp
theorem RefDivSt.stay {m n L i r r1 : Nat} {zs : List Nat} (h : RefDivSt m n L (i + 1) zs r) (h1 : r1 = r * 2 + m / 2 ^ i % 2) (hlt : r1 < n) : RefDivSt m n L i zs r1 := by
  have e := h.next
  rw [← h1] at e
  obtain ⟨d1, d2⟩ := divmod_of e hlt
  refine ⟨h.len, h.low, hlt, d2, ?_⟩
  rw [d1, h.quo, Nat.pow_succ]; grind
theorem RefDivSt.take {m n L i r r1 z : Nat} {zs : List Nat} (h : RefDivSt m n L (i + 1) zs r) (h1 : r1 = r * 2 + m / 2 ^ i % 2) (hge : n ≤ r1) (hz : zs[i / 32]? = some z) : RefDivSt m n L i (zs.set (i / 32) (z + 2 ^ (i % 32))) (r1 - n) := by
  have e := h.next
  have hb : m / 2 ^ i % 2 < 2 := Nat.mod_lt _ (by omega)
  have hlt := h.lt
  rw [← h1] at e
  have e' : m / 2 ^ i = (m / 2 ^ (i + 1) / n * 2 + 1) * n + (r1 - n) := by rw [e, Nat.add_mul (_ * 2) 1 n, Nat.one_mul]; omega
  obtain ⟨d1, d2⟩ := divmod_of e' (by omega)
  have hi : i / 32 < zs.length := (List.getElem?_eq_some_iff.1 hz).1
  have hs := val_set B32 zs (i / 32) (z + 2 ^ (i % 32)) hi
  rw [(List.getElem?_eq_some_iff.1 hz).2] at hs
  have e4 : B32 ^ (i / 32) * 2 ^ (i % 32) = 2 ^ i := by
    have : B32 ^ (i / 32) = 2 ^ (32 * (i / 32)) := by rw [Nat.pow_mul]; rfl
    rw [this, ← Nat.pow_add]; congr 1; omega
  rw [Nat.mul_add, e4] at hs
  refine ⟨by rw [List.length_set]; exact h.len, h.low.set (h.digit hz), by omega, d2, ?_⟩
  have hq := h.quo
  rw [d1]
  clear h d1 d2 e e'
  generalize m / 2 ^ (i + 1) / n = Q at *
  have e5 : Q * 2 ^ (i + 1) = Q * 2 * 2 ^ i := by rw [Nat.pow_succ]; grind
  rw [Nat.add_mul, Nat.one_mul]
  omega
end Go.Proofs.YthgekjkgfccnaaaGreat

namespace Go.Proofs.YthgekjkgfccnaaaGreat
open Go.RowKit Num

/-- Two numbers come back. -/
def TwoN (w : World) (q r : Nat) (e : Ending) (w' : World) : Prop := ∃ v u, e = .returned (.tuple #[v, u]) ∧ N32 w' v q ∧ N32 w' u r ∧ Below w.heap.size w w'
theorem Row.keep {k : IntKind} {T : TypeId} {w w' : World} {g : Nat} {zs : List Nat} (h : Row k T w g zs) (hb : Below w.heap.size w w') : Row k T w' g zs := h.below hb h.lt
theorem ref_empty (w : World) : Limbs (w.alloc (.cells #[] 106)) (.slice (some ⟨w.heap.size, 0, none⟩) 0 0) (dig B32 0) := by
  rw [dig_zero]
  exact ⟨_, _, rfl, Nat.le_refl _, by simp, Nums.nil⟩
theorem OwnLs.setc {B g : Nat} {w : World} {v : Value} {ys : List Nat} (h : OwnLs B w v ys) (hg : g < B) (i : Nat) (u : Value) : OwnLs B (w.setCell ⟨g, i, none⟩ u) v ys := by
  obtain ⟨h1, h2⟩ := h
  refine ⟨h1, ?_⟩
  rcases h2 with h2 | ⟨g2, cap, cur, e, hg2, hh, r⟩
  · exact .inl h2
  · exact .inr ⟨g2, cap, cur, e, hg2, (Below.heap_setCell w _ u g2 (by show g2 ≠ g; omega)).trans hh, r⟩
theorem nbits_len {m : Nat} : nbits m ≤ 32 * (dig B32 m).length := nbits_le (by
  have h1 := dig_len_lt b32_two (n := m)
  have e : B32 ^ (dig B32 m).length = 2 ^ (32 * (dig B32 m).length) := by rw [Nat.pow_mul]; rfl
  omega)
theorem len_mono32 {m n : Nat} (h : m ≤ n) : (dig B32 m).length ≤ (dig B32 n).length := dig_len_le b32_two (Nat.lt_of_le_of_lt h (dig_len_lt b32_two))

set_option maxHeartbeats 4000000 in
set_option maxRecDepth 100000 in
theorem refDivMod_any (a b : Value) (m n : Nat) (w : World) (ha : N32 w a m) (hb : N32 w b n) (hm : (dig B32 m).length ≤ 500) (hn : (dig B32 n).length ≤ 500) (hn0 : 0 < n) :
    Calls Tryz.prog 74 #[a, b] w (TwoN w (m / n) (m % n)) := by
  have hnb := nbits_len (m := m)
  have hbits := fun w' (h : N32 w' a m) => refBits_any a m w' h (by omega)
  obtain ⟨L, hL⟩ : ∃ L, (dig B32 m).length = L := ⟨_, rfl⟩
  have hmk := make35 L (by omega) w
  have hr0 := Row.made w .u32 L 106
  have hbA : Below w.heap.size w (w.alloc (.cells (madeCells #[.int .u32 0] L) 106)) := (Below.refl _ _).alloc (Nat.le_refl _) _
  have hst0 := RefDivSt.start (m := m) (L := L) hn0
  have htm := fun v w' (r : Nat) (h : N32 w' v r) (hl : (dig B32 r).length ≤ 1000) => times_any v r 2 w' h hl (by unfold B32; omega)
  have hbit := fun w' i (h : N32 w' a m) (hi : i < nbits m) => refBit_call a m i w' h (by omega) hi
  have hof := fun w' (v : Nat) (hv : v < 2) => refOf_any v (by unfold B64; omega) w'
  have had := fun u v w' (x y : Nat) (h : N32 w' u x) (k : N32 w' v y) (h1 : (dig B32 x).length ≤ 1000) (h2 : (dig B32 y).length ≤ 1000) => refAdd_call u v x y w' h k (by omega) (by omega)
  have hcm := fun v w' (x : Nat) (h : N32 w' v x) (k : N32 w' b n) (h1 : (dig B32 x).length ≤ 1000) => refCmp_call v b x n w' h k (by omega) (by omega)
  have hsu := fun v w' (x : Nat) (h : N32 w' v x) (k : N32 w' b n) (h1 : (dig B32 x).length ≤ 1000) (hle : n ≤ x) => refSub_call v b x n w' h k (by omega) hle
  have hrl : ∀ r, r < n → (dig B32 r).length ≤ 500 := fun r h => Nat.le_trans (len_mono32 (Nat.le_of_lt h)) hn
  have hr2 : ∀ r, r < n → (dig B32 (r * 2)).length ≤ 1000 := fun r h => Nat.le_trans (prod_len (hrl r h) (small32 (k := 2) (by unfold B32; omega))) (by omega)
  have hr3 : ∀ r y, r < n → y < 2 → (dig B32 (r * 2 + y)).length ≤ 1000 := fun r y h hy => Nat.le_trans (len_mono32 (show r * 2 + y ≤ n * 2 by omega)) (Nat.le_trans (prod_len hn (small32 (k := 2) (by unfold B32; omega))) (by omega))
  have hbl : ∀ y, y < 2 → (dig B32 y).length ≤ 1000 := fun y hy => Nat.le_trans (small32 (by unfold B32; omega)) (by omega)
  have HA := Lib.hid ha
  have HB := Lib.hid hb
  obtain ⟨A, c, rfl, _⟩ := ha
  obtain ⟨A', c', rfl, _⟩ := hb
  rw [hL] at hnb hm ⊢
  rw [hL] at HA hbits hbit
  have HLEN := Lib.hid hL
  have HBITS := Lib.hid hbits
  have HTM := Lib.hid htm
  have HBIT := Lib.hid hbit
  have HOF := Lib.hid hof
  have HAD := Lib.hid had
  have HCM := Lib.hid hcm
  have HSU := Lib.hid hsu
  have HRL := Lib.hid hrl
  have HR2 := Lib.hid hr2
  have HR3 := Lib.hid hr3
  have HBL := Lib.hid hbl
  have HR0 := Lib.hid hr0
  have HST0 := Lib.hid hst0
  clear hbits htm hbit hof had hcm hsu hrl hr2 hr3 hbl hr0 hst0
  obtain ⟨nb, hnbe⟩ : ∃ nb, nbits m = nb := ⟨_, rfl⟩
  rw [hnbe] at HBITS HBIT HST0 hnb
  clear hL hnbe
  go_enter Tryz.func74, Tryz.ntmps74
  go_wp2_with (fail)
  refine (HBITS.out _ ((HA.out.keep hbA).keep (below_new _ (.cells #[] 106)))).mono ?_
  rintro e w1 ⟨rfl, rfl⟩
  go_wp2
  go_loopw [7, 8] (fun rv t wr => ∃ (k r : Nat) (zs : List Nat), k ≤ nb ∧ t = .int .i64 ((k : Int) - 1) ∧ RefDivSt m n L k zs r ∧ N32 wr rv r ∧ Row .u32 106 wr w.heap.size zs ∧ Below w.heap.size w wr) (fun _ t _ => (intOf t + 1).toNat)
  case atStart => exact ⟨nb, 0, _, Nat.le_refl _, rfl, HST0.out, (by have := (ref_empty (w.alloc (.cells (madeCells #[.int .u32 0] L) 106))).is; rwa [show (w.alloc (.cells (madeCells #[.int .u32 0] L) 106)).heap.size = w.heap.size + 1 from by simp] at this), HR0.out.alloc _, hbA.alloc hbA.size _⟩
  case round =>
    clear hbA HST0 HR0 hmk HBITS
    obtain ⟨k, r, zs, hk, rfl, hst, hr, hrow, hbl⟩ := hrel
    have hlen := hst.len
    have hrn := hst.lt
    by_cases h0 : k = 0
    · subst h0
      have hq := hst.quo
      have hre := hst.rem
      rw [Nat.pow_zero, Nat.div_one, Nat.mul_one] at hq
      rw [Nat.pow_zero, Nat.div_one] at hre
      have hnm := hrow.nums0 zs.length
      rw [List.take_length] at hnm
      have htr := refTrim_l (.slice (some ⟨w.heap.size, 0, none⟩) L L) zs wr ⟨_, _, by rw [hlen], by omega, by omega, hnm⟩ hst.low (by omega)
      rw [hq] at htr
      have hql : (dig B32 (m / n)).length ≤ 1000 := by rw [← hq]; exact Nat.le_trans (trim_le b32_two hst.low) (by omega)
      rw [← hre] at hr
      generalize m / n = Q at *
      generalize m % n = R at *
      have HT := Lib.hid htr
      clear htr hq hre hnm hst hlen
      go_wp2_with (go_at_call 77; refine HT.out.mono ?_; rintro e w9 ⟨v9, rfl, hv9, hb9⟩)
      go_ret2
      exact ⟨_, _, rfl, (hv9.limbs (by omega)).is, hr.keep hb9, below_at hbl (Nat.le_refl _) hb9⟩
    · obtain ⟨i, rfl⟩ : ∃ i, k = i + 1 := ⟨k - 1, by omega⟩
      obtain ⟨z, hz⟩ : ∃ z, zs[i / 32]? = some z := ⟨zs[i / 32]'(by omega), List.getElem?_eq_getElem _⟩
      have hby : m / 2 ^ i % 2 < 2 := Nat.mod_lt _ (by omega)
      obtain ⟨y, hy⟩ : ∃ y, m / 2 ^ i % 2 = y := ⟨_, rfl⟩
      have hb90 := fun w' (h : N32 w' (.slice A L c) m) => HBIT.out w' i h (by omega)
      rw [hy] at hb90 hby
      have y1 : IntKind.u64.wrap (y : Int) = (y : Int) := by rw [IntKind.wrap_u64]; omega
      have HB90 := Lib.hid hb90
      have HY := Lib.hid hy
      have HZ := Lib.hid hz
      have HST := Lib.hid hst
      have HLZ := Lib.hid hlen
      clear hb90 hy hz hst hlen
      by_cases hge : n ≤ r * 2 + y
      · have hcc : 0 ≤ cmpN (r * 2 + y) n := by
          rcases Nat.lt_or_ge n (r * 2 + y) with h | h
          · rw [cmpN_gt h]; omega
          · rw [show r * 2 + y = n by omega, cmpN_eq]; omega
        obtain ⟨cc, hce⟩ : ∃ cc, cmpN (r * 2 + y) n = cc := ⟨_, rfl⟩
        rw [hce] at hcc
        have hst' := HST.out.take (by rw [HY.out]) hge HZ.out
        have hdg := HST.out.digit HZ.out
        have HST2 := Lib.hid hst'
        have HGE := Lib.hid hge
        have hcm2 := fun v w' (h : N32 w' v (r * 2 + y)) (k : N32 w' (.slice A' (dig B32 n).length c') n) (h1 : (dig B32 (r * 2 + y)).length ≤ 1000) => HCM.out v w' _ h k h1
        rw [hce] at hcm2
        have HCM2 := Lib.hid hcm2
        have HDG := Lib.hid hdg
        clear hst' hge hce hcm2 hdg
        have ka := HA.out.keep hbl
        have kb := HB.out.keep hbl
        have hgl := hrow.lt
        go_wp2_with (fail)
        refine (HTM.out _ _ r hr (by have := HRL.out r hrn; omega)).mono ?_
        rintro e w1 ⟨v1, rfl, hv1, hb1⟩
        have b1 := below_at hbl (Nat.le_refl _) hb1
        have ka_1 := ka.keep hb1
        have kb_1 := kb.keep hb1
        have kw_1 := hrow.keep hb1
        have k1_1 := (hv1.limbs (by have := HR2.out r hrn; omega)).is
        go_wp2_with (fail)
        refine (HB90.out _ ka_1).mono ?_
        rintro e w2 ⟨rfl, rfl⟩
        go_wp2_with (fail)
        refine (HOF.out _ y hby).mono ?_
        rintro e w3 ⟨v2, rfl, hv2, hb3⟩
        have b3 := below_at b1 (Nat.le_refl _) hb3
        have kb_3 := kb_1.keep hb3
        have kw_3 := kw_1.keep hb3
        have k1_3 := k1_1.keep hb3
        have k2_3 := (hv2.limbs (by have := HBL.out y hby; omega)).is
        go_wp2_with (fail)
        refine (HAD.out _ _ _ _ _ k1_3 k2_3 (HR2.out r hrn) (HBL.out y hby)).mono ?_
        rintro e w4 ⟨v3, rfl, hv3, hb4⟩
        have b4 := below_at b3 (Nat.le_refl _) hb4
        have kb_4 := kb_3.keep hb4
        have kw_4 := kw_3.keep hb4
        have k3_4 := (hv3.limbs (by have := HR3.out r y hrn hby; omega)).is
        go_wp2_with (fail)
        refine (HCM2.out _ _ k3_4 kb_4 (HR3.out r y hrn hby)).mono ?_
        rintro e w5 ⟨rfl, hb5⟩
        have b5 := below_at b4 (Nat.le_refl _) hb5
        have kb_5 := kb_4.keep hb5
        have kw_5 := kw_4.keep hb5
        have k3_5 := k3_4.keep hb5
        go_wp2_with (fail)
        refine (HSU.out _ _ _ k3_5 kb_5 (HR3.out r y hrn hby) HGE.out).mono ?_
        rintro e w6 ⟨v6, rfl, hv6, hb6⟩
        have b6 := below_at b5 (Nat.le_refl _) hb6
        have kw_6 := kw_5.keep hb6
        have k6 := fun i u => ((hv6.setc (g := w.heap.size) kw_5.lt i u).limbs (by have := HRL.out _ HST2.out.lt; omega)).is
        have hrow6 := kw_6
        obtain ⟨q, sh, hq32, hs32, hs1⟩ : ∃ q sh, i / 32 = q ∧ i % 32 = sh ∧ sh < 32 := ⟨_, _, rfl, rfl, Nat.mod_lt _ (by omega)⟩
        have hzq := HZ.out
        rw [hq32] at hzq
        have cz := hrow6.cell hzq
        have fz := hrow6.frozen q
        have hqL : q < L := by omega
        have hdq := HDG.out
        rw [hs32] at hdq
        have e1 : (i : Int) / 32 = (q : Int) := by omega
        have e2 : (i : Int) % 32 = (sh : Int) := by omega
        have e3 : (i : Int).tdiv 32 = (q : Int) := by rw [Int.tdiv_eq_ediv_of_nonneg (by omega)]; exact e1
        have e4 : (i : Int).tmod 32 = (sh : Int) := by rw [Int.tmod_eq_emod_of_nonneg (by omega)]; exact e2
        have HZQ := Lib.hid hzq
        have HDQ := Lib.hid hdq
        have HQ32 := Lib.hid hq32
        have HS32 := Lib.hid hs32
        clear hzq hdq hq32 hs32
        go_wp2
        go_loop [9, 10] (fun a t => ∃ j p : Nat, j ≤ sh ∧ t = .int .i64 (j : Int) ∧ a = .int .u32 (p : Int) ∧ PowIs p j) (fun _ t => sh - (intOf t).toNat)
        case atStart => exact ⟨0, 1, Nat.zero_le _, rfl, rfl, rfl⟩
        case round =>
          obtain ⟨j, p, hj, rfl, rfl, hp⟩ := hrel
          by_cases hlt : j < sh
          · obtain ⟨p2, hp2, x1, x2⟩ := powIs_step hp (by omega)
            have HP2 := Lib.hid hp2
            clear hp2 hp
            go_wp2
            go_round
            case rel => exact ⟨j + 1, p2, by omega, by go_num, rfl, HP2.out⟩
            case measure => simp [intOf]; omega
          · obtain rfl : j = sh := by omega
            clear hlt
            have hpz : z + p < B32 := by rw [hp]; exact HDQ.out
            have x1 : IntKind.u32.wrap ((z : Int) + (p : Int)) = ((z + p : Nat) : Int) := by unfold B32 at hpz; rw [IntKind.wrap_u32']; omega
            obtain ⟨zp, hzp⟩ : ∃ zp, z + p = zp := ⟨_, rfl⟩
            have x2 : ((z : Int) + (p : Int)) % 4294967296 = (zp : Int) := by unfold B32 at hpz; omega
            rw [hzp] at x1
            have hst2 := HST2.out
            rw [HQ32.out, HS32.out, ← hp, hzp] at hst2
            have HST3 := Lib.hid hst2
            clear hst2 hp hpz hzp
            go_wp2
            go_roundw
            case rel => exact ⟨i, _, _, by omega, by first | rfl | go_num, HST3.out, k6 _ _, hrow6.set q zp, below_set b6 (Nat.le_refl _) _⟩
            case measure => simp [intOf]
      · have hlt2 : r * 2 + y < n := by omega
        have hst' := HST.out.stay (by rw [HY.out]) hlt2
        have HST2 := Lib.hid hst'
        have hcm2 := fun v w' (h : N32 w' v (r * 2 + y)) (k : N32 w' (.slice A' (dig B32 n).length c') n) (h1 : (dig B32 (r * 2 + y)).length ≤ 1000) => HCM.out v w' _ h k h1
        rw [cmpN_lt hlt2] at hcm2
        have HCM2 := Lib.hid hcm2
        clear hst' hge hcm2 hlt2
        have ka := HA.out.keep hbl
        have kb := HB.out.keep hbl
        have hgl := hrow.lt
        go_wp2_with (fail)
        refine (HTM.out _ _ r hr (by have := HRL.out r hrn; omega)).mono ?_
        rintro e w1 ⟨v1, rfl, hv1, hb1⟩
        have b1 := below_at hbl (Nat.le_refl _) hb1
        have ka_1 := ka.keep hb1
        have kb_1 := kb.keep hb1
        have kw_1 := hrow.keep hb1
        have k1_1 := (hv1.limbs (by have := HR2.out r hrn; omega)).is
        go_wp2_with (fail)
        refine (HB90.out _ ka_1).mono ?_
        rintro e w2 ⟨rfl, rfl⟩
        go_wp2_with (fail)
        refine (HOF.out _ y hby).mono ?_
        rintro e w3 ⟨v2, rfl, hv2, hb3⟩
        have b3 := below_at b1 (Nat.le_refl _) hb3
        have kb_3 := kb_1.keep hb3
        have kw_3 := kw_1.keep hb3
        have k1_3 := k1_1.keep hb3
        have k2_3 := (hv2.limbs (by have := HBL.out y hby; omega)).is
        go_wp2_with (fail)
        refine (HAD.out _ _ _ _ _ k1_3 k2_3 (HR2.out r hrn) (HBL.out y hby)).mono ?_
        rintro e w4 ⟨v3, rfl, hv3, hb4⟩
        have b4 := below_at b3 (Nat.le_refl _) hb4
        have kb_4 := kb_3.keep hb4
        have kw_4 := kw_3.keep hb4
        have k3_4 := (hv3.limbs (by have := HR3.out r y hrn hby; omega)).is
        go_wp2_with (fail)
        refine (HCM2.out _ _ k3_4 kb_4 (HR3.out r y hrn hby)).mono ?_
        rintro e w5 ⟨rfl, hb5⟩
        have b5 := below_at b4 (Nat.le_refl _) hb5
        have kb_5 := kb_4.keep hb5
        have kw_5 := kw_4.keep hb5
        have k3_5 := k3_4.keep hb5
        go_wp2
        go_roundw
        case rel => exact ⟨i, _, _, by omega, by first | rfl | go_num, HST2.out, k3_5, kw_5, b5⟩
        case measure => simp [intOf]
end Go.Proofs.YthgekjkgfccnaaaGreat

namespace Go.Proofs.YthgekjkgfccnaaaGreat
open Go.RowKit Num

theorem refDensity_any (v : Int) (w : World) : Calls Tryz.prog 12 #[.int .i64 v] w fun e w' => e = .returned (.bool (inB v 1 30000)) ∧ w = w' := by
  have h := fun w1 => in_any v 1 30000 w1
  generalize inB v 1 30000 = b at *
  have H := Lib.hid h
  clear h
  go_enter Tryz.func12, Tryz.ntmps12
  go_wp2_with (fail)
  refine (H.out _).mono ?_
  rintro e w1 ⟨rfl, rfl⟩
  go_wp2
  go_ret
  exact ⟨rfl, rfl⟩
theorem refLength_any (v : Int) (w : World) : Calls Tryz.prog 13 #[.int .i64 v] w fun e w' => e = .returned (.bool (inB v 1 100000)) ∧ w = w' := by
  have h := fun w1 => in_any v 1 100000 w1
  generalize inB v 1 100000 = b at *
  have H := Lib.hid h
  clear h
  go_enter Tryz.func13, Tryz.ntmps13
  go_wp2_with (fail)
  refine (H.out _).mono ?_
  rintro e w1 ⟨rfl, rfl⟩
  go_wp2
  go_ret
  exact ⟨rfl, rfl⟩
theorem refFreq_any (v : Int) (w : World) : Calls Tryz.prog 14 #[.int .i64 v] w fun e w' => e = .returned (.bool (inB v 1 10000000)) ∧ w = w' := by
  have h := fun w1 => in_any v 1 10000000 w1
  generalize inB v 1 10000000 = b at *
  have H := Lib.hid h
  clear h
  go_enter Tryz.func14, Tryz.ntmps14
  go_wp2_with (fail)
  refine (H.out _).mono ?_
  rintro e w1 ⟨rfl, rfl⟩
  go_wp2
  go_ret
  exact ⟨rfl, rfl⟩
theorem refDiameter_any (v : Int) (w : World) : Calls Tryz.prog 16 #[.int .i64 v] w fun e w' => e = .returned (.bool (inB v 1 2000)) ∧ w = w' := by
  have h := fun w1 => in_any v 1 2000 w1
  generalize inB v 1 2000 = b at *
  have H := Lib.hid h
  clear h
  go_enter Tryz.func16, Tryz.ntmps16
  go_wp2_with (fail)
  refine (H.out _).mono ?_
  rintro e w1 ⟨rfl, rfl⟩
  go_wp2
  go_ret
  exact ⟨rfl, rfl⟩
theorem refStrength_any (v : Int) (w : World) : Calls Tryz.prog 18 #[.int .i64 v] w fun e w' => e = .returned (.bool (inB v 1 100000)) ∧ w = w' := by
  have h := fun w1 => in_any v 1 100000 w1
  generalize inB v 1 100000 = b at *
  have H := Lib.hid h
  clear h
  go_enter Tryz.func18, Tryz.ntmps18
  go_wp2_with (fail)
  refine (H.out _).mono ?_
  rintro e w1 ⟨rfl, rfl⟩
  go_wp2
  go_ret
  exact ⟨rfl, rfl⟩
theorem refSafety_any (v : Int) (w : World) : Calls Tryz.prog 19 #[.int .i64 v] w fun e w' => e = .returned (.bool (inB v 1 100)) ∧ w = w' := by
  have h := fun w1 => in_any v 1 100 w1
  generalize inB v 1 100 = b at *
  have H := Lib.hid h
  clear h
  go_enter Tryz.func19, Tryz.ntmps19
  go_wp2_with (fail)
  refine (H.out _).mono ?_
  rintro e w1 ⟨rfl, rfl⟩
  go_wp2
  go_ret
  exact ⟨rfl, rfl⟩
set_option maxHeartbeats 4000000 in
set_option maxRecDepth 100000 in
theorem Tension_bad (d wd l f : Int) (w : World) (hb : (inB d 1 30000 && inB wd 1 2000 && inB l 1 100000 && inB f 1 10000000) = false) : Calls Tryz.prog 9 #[.int .i64 d, .int .i64 wd, .int .i64 l, .int .i64 f] w (Int2 w 0 1) := by
  have h0 := fun w1 => within_any d 1 30000 w1
  have h1 := fun w1 => within_any wd 1 2000 w1
  have h2 := fun w1 => within_any l 1 100000 w1
  have h3 := fun w1 => within_any f 1 10000000 w1
  generalize inB d 1 30000 = b0 at *
  generalize inB wd 1 2000 = b1 at *
  generalize inB l 1 100000 = b2 at *
  generalize inB f 1 10000000 = b3 at *
  have H0 := Lib.hid h0
  have H1 := Lib.hid h1
  have H2 := Lib.hid h2
  have H3 := Lib.hid h3
  clear h0 h1 h2 h3
  cases b0 with
  | false =>
    clear hb
    go_enter Tryz.func9, Tryz.ntmps9
    go_wp2_with (fail)
    refine (H0.out _).mono ?_
    rintro e w1 ⟨rfl, rfl⟩
    go_wp2
    go_ret2
    exact ⟨rfl, Below.refl _ _⟩
  | true =>
    cases b1 with
    | false =>
      clear hb
      go_enter Tryz.func9, Tryz.ntmps9
      go_wp2_with (fail)
      refine (H0.out _).mono ?_
      rintro e w1 ⟨rfl, rfl⟩
      go_wp2_with (fail)
      refine (H1.out _).mono ?_
      rintro e w1 ⟨rfl, rfl⟩
      go_wp2
      go_ret2
      exact ⟨rfl, Below.refl _ _⟩
    | true =>
      cases b2 with
      | false =>
        clear hb
        go_enter Tryz.func9, Tryz.ntmps9
        go_wp2_with (fail)
        refine (H0.out _).mono ?_
        rintro e w1 ⟨rfl, rfl⟩
        go_wp2_with (fail)
        refine (H1.out _).mono ?_
        rintro e w1 ⟨rfl, rfl⟩
        go_wp2_with (fail)
        refine (H2.out _).mono ?_
        rintro e w1 ⟨rfl, rfl⟩
        go_wp2
        go_ret2
        exact ⟨rfl, Below.refl _ _⟩
      | true =>
        cases b3 with
        | false =>
          clear hb
          go_enter Tryz.func9, Tryz.ntmps9
          go_wp2_with (fail)
          refine (H0.out _).mono ?_
          rintro e w1 ⟨rfl, rfl⟩
          go_wp2_with (fail)
          refine (H1.out _).mono ?_
          rintro e w1 ⟨rfl, rfl⟩
          go_wp2_with (fail)
          refine (H2.out _).mono ?_
          rintro e w1 ⟨rfl, rfl⟩
          go_wp2_with (fail)
          refine (H3.out _).mono ?_
          rintro e w1 ⟨rfl, rfl⟩
          go_wp2
          go_ret2
          exact ⟨rfl, Below.refl _ _⟩
        | true =>
          simp at hb
set_option maxHeartbeats 4000000 in
set_option maxRecDepth 100000 in
theorem Stress_bad (d l f : Int) (w : World) (hb : (inB d 1 30000 && inB l 1 100000 && inB f 1 10000000) = false) : Calls Tryz.prog 10 #[.int .i64 d, .int .i64 l, .int .i64 f] w (Int2 w 0 1) := by
  have h0 := fun w1 => within_any d 1 30000 w1
  have h1 := fun w1 => within_any l 1 100000 w1
  have h2 := fun w1 => within_any f 1 10000000 w1
  generalize inB d 1 30000 = b0 at *
  generalize inB l 1 100000 = b1 at *
  generalize inB f 1 10000000 = b2 at *
  have H0 := Lib.hid h0
  have H1 := Lib.hid h1
  have H2 := Lib.hid h2
  clear h0 h1 h2
  cases b0 with
  | false =>
    clear hb
    go_enter Tryz.func10, Tryz.ntmps10
    go_wp2_with (fail)
    refine (H0.out _).mono ?_
    rintro e w1 ⟨rfl, rfl⟩
    go_wp2
    go_ret2
    exact ⟨rfl, Below.refl _ _⟩
  | true =>
    cases b1 with
    | false =>
      clear hb
      go_enter Tryz.func10, Tryz.ntmps10
      go_wp2_with (fail)
      refine (H0.out _).mono ?_
      rintro e w1 ⟨rfl, rfl⟩
      go_wp2_with (fail)
      refine (H1.out _).mono ?_
      rintro e w1 ⟨rfl, rfl⟩
      go_wp2
      go_ret2
      exact ⟨rfl, Below.refl _ _⟩
    | true =>
      cases b2 with
      | false =>
        clear hb
        go_enter Tryz.func10, Tryz.ntmps10
        go_wp2_with (fail)
        refine (H0.out _).mono ?_
        rintro e w1 ⟨rfl, rfl⟩
        go_wp2_with (fail)
        refine (H1.out _).mono ?_
        rintro e w1 ⟨rfl, rfl⟩
        go_wp2_with (fail)
        refine (H2.out _).mono ?_
        rintro e w1 ⟨rfl, rfl⟩
        go_wp2
        go_ret2
        exact ⟨rfl, Below.refl _ _⟩
      | true =>
        simp at hb
set_option maxHeartbeats 4000000 in
set_option maxRecDepth 100000 in
theorem Holds_bad (d s l f sf : Int) (w : World) (hb : (strongB d s f sf && inB l 1 100000) = false) : Calls Tryz.prog 11 #[.int .i64 d, .int .i64 s, .int .i64 l, .int .i64 f, .int .i64 sf] w (Bool2 w false 1) := by
  have h0 := fun w1 => areStrong_any d s f sf w1
  have h1 := fun w1 => within_any l 1 100000 w1
  generalize strongB d s f sf = b0 at *
  generalize inB l 1 100000 = b1 at *
  have H0 := Lib.hid h0
  have H1 := Lib.hid h1
  clear h0 h1
  cases b0 with
  | false =>
    clear hb
    go_enter Tryz.func11, Tryz.ntmps11
    go_wp2_with (fail)
    refine (H0.out _).mono ?_
    rintro e w1 ⟨rfl, rfl⟩
    go_wp2
    go_ret2
    exact ⟨rfl, Below.refl _ _⟩
  | true =>
    cases b1 with
    | false =>
      clear hb
      go_enter Tryz.func11, Tryz.ntmps11
      go_wp2_with (fail)
      refine (H0.out _).mono ?_
      rintro e w1 ⟨rfl, rfl⟩
      go_wp2_with (fail)
      refine (H1.out _).mono ?_
      rintro e w1 ⟨rfl, rfl⟩
      go_wp2
      go_ret2
      exact ⟨rfl, Below.refl _ _⟩
    | true => simp at hb

set_option maxHeartbeats 4000000 in
set_option maxRecDepth 100000 in
theorem refWhole_any (a b : Value) (m n : Nat) (w : World) (ha : N32 w a m) (hb : N32 w b n) (hm : Sml m) (hn : Sml n) (h0 : 0 < n) (hq : m / n < 9223372036854775808) : Calls Tryz.prog 47 #[a, b] w (IntPost w (m / n)) := by
  have hdv := refDivMod_any a b m n w ha hb (by have := hm.len; omega) (by have := hn.len; omega) h0
  have hq64 : (dig B32 (m / n)).length ≤ 2 := dig_len_le b32_two (by unfold B32; omega)
  have hu := fun v w1 (h : N32 w1 v (m / n)) => small_ok v (m / n) w1 h hq64
  generalize m / n = q at *
  have hcv : IntKind.i64.wrap (q : Int) = (q : Int) := by rw [IntKind.wrap_i64]; omega
  have HDV := Lib.hid hdv
  have HU := Lib.hid hu
  clear hdv hu ha hb hq64
  go_enter Tryz.func47, Tryz.ntmps47
  go_wp2_with (fail)
  refine (HDV.out).mono ?_
  rintro e w1 ⟨v, u, rfl, hv, _, hb1⟩
  have HCC := Lib.hid (HU.out v w1 (by first | exact hv | exact hv.is))
  go_wp2_with (fail)
  refine (HCC.out).mono ?_
  rintro e w2 ⟨rfl, hb2⟩
  go_wp2
  go_ret
  exact ⟨rfl, below_on hb1 hb1.size hb2⟩
set_option maxHeartbeats 4000000 in
set_option maxRecDepth 100000 in
theorem refStress_any (d l f : Nat) (w : World) (hd : InD d) (hl : InL l) (hf : InF f) : Calls Tryz.prog 15 #[.int .i64 (d : Int), .int .i64 (l : Int), .int .i64 (f : Int)] w (IntPost w (stressN d l f)) := by
  have hle := stress_le (c := 4) (by omega) hd hl hf
  have hsm : Sml (prodN [4, d, l, l, f, f]) := sml_of (k := 12000000000000000000000000000000001) (Nat.lt_of_le_of_lt hle (by decide)) (by decide)
  have hpr := refProduct_any (some ⟨w.heap.size, 0, none⟩) 6 6 [4, d, l, l, f, f] _ (ints_new w _) rfl (by simp) (by simp; have := hd.lo; have := hl.lo; have := hf.lo; omega) (by simp; have := hd.hi; have := hl.hi; have := hf.hi; omega) hsm
  have hba := below_new w (.cells (is (numI [4, d, l, l, f, f])).toArray 3)
  have htn := fun w1 => refTen_any 20 w1 (by omega)
  have hq := fun a b w1 (h : N32 w1 a (prodN [4, d, l, l, f, f])) (k : N32 w1 b (10 ^ 20)) => refWhole_any a b _ _ w1 h k hsm (pow10_sml (by omega)) (by decide) (Nat.lt_of_le_of_lt (stress_lt hd hl hf) (by decide))
  have Hpr := Lib.hid hpr
  have Hba := Lib.hid hba
  have Htn := Lib.hid htn
  have Hq := Lib.hid hq
  clear hpr hba htn hq hle hsm
  go_enter Tryz.func15, Tryz.ntmps15
  go_wp2_with (fail)
  refine (Hpr.out).mono ?_
  rintro e w1 ⟨v1, rfl, hv1, hb1⟩
  have b1 := below_on Hba.out Hba.out.size hb1
  go_wp2_with (fail)
  refine (Htn.out w1).mono ?_
  rintro e w2 ⟨v2, rfl, hv2, hb2⟩
  have b2 := below_on b1 b1.size hb2
  have HD := Lib.hid (Hq.out v1 v2 w2 (N32Post.keep hv1 hb2) hv2)
  go_wp2_with (fail)
  refine (HD.out).mono ?_
  rintro e w3 ⟨rfl, hb3⟩
  go_wp2
  go_ret
  exact ⟨rfl, below_on b2 b2.size hb3⟩
set_option maxHeartbeats 4000000 in
set_option maxRecDepth 100000 in
theorem refTension_any (d wd l f : Nat) (w : World) (hd : InD d) (hw : InW wd) (hl : InL l) (hf : InF f) : Calls Tryz.prog 17 #[.int .i64 (d : Int), .int .i64 (wd : Int), .int .i64 (l : Int), .int .i64 (f : Int)] w (IntPost w (pullN d wd l f)) := by
  have hle := pull_le hd hw hl hf
  have hsm : Sml (prodN [355, d, wd, wd, l, l, f, f]) := sml_of (k := 42600000000000000000000000000000000001) (Nat.lt_succ_of_le hle) (by decide)
  have hpr := refProduct_any (some ⟨w.heap.size, 0, none⟩) 8 8 [355, d, wd, wd, l, l, f, f] _ (ints_new w _) rfl (by simp) (by simp; have := hd.lo; have := hw.lo; have := hl.lo; have := hf.lo; omega) (by simp; have := hd.hi; have := hw.hi; have := hl.hi; have := hf.hi; omega) hsm
  have hba := below_new w (.cells (is (numI [355, d, wd, wd, l, l, f, f])).toArray 3)
  have hof := fun w1 => refOf_s 113 w1 (by omega)
  have htn := fun w1 => refTen_any 23 w1 (by omega)
  have hml := fun a b w1 (h : N32 w1 a 113) (k : N32 w1 b (10 ^ 23)) => refMul_s a b _ _ w1 h k (sml_i64 (by omega)) (pow10_sml (by omega)) (sml_of (k := 10 ^ 26) (by decide) (by decide))
  have hq := fun a b w1 (h : N32 w1 a (prodN [355, d, wd, wd, l, l, f, f])) (k : N32 w1 b (113 * 10 ^ 23)) => refWhole_any a b _ _ w1 h k hsm (sml_of (k := 10 ^ 26) (by decide) (by decide)) (by decide) (Nat.lt_of_le_of_lt (show _ ≤ _ by have := pull_lt hd hw hl hf; unfold pullN at this; rw [Nat.mul_comm] at this; exact this) (by decide))
  have he : prodN [355, d, wd, wd, l, l, f, f] / (113 * 10 ^ 23) = pullN d wd l f := by unfold pullN; rw [Nat.mul_comm]
  rw [he] at hq
  have Hpr := Lib.hid hpr
  have Hba := Lib.hid hba
  have Hof := Lib.hid hof
  have Htn := Lib.hid htn
  have Hml := Lib.hid hml
  have Hq := Lib.hid hq
  clear hpr hba hof htn hml hq hle hsm he
  go_enter Tryz.func17, Tryz.ntmps17
  go_wp2_with (fail)
  refine (Hpr.out).mono ?_
  rintro e w1 ⟨v1, rfl, hv1, hb1⟩
  have b1 := below_on Hba.out Hba.out.size hb1
  go_wp2_with (fail)
  refine (Hof.out w1).mono ?_
  rintro e w2 ⟨v2, rfl, hv2, hb2⟩
  have b2 := below_on b1 b1.size hb2
  go_wp2_with (fail)
  refine (Htn.out w2).mono ?_
  rintro e w3 ⟨v3, rfl, hv3, hb3⟩
  have b3 := below_on b2 b2.size hb3
  have HD := Lib.hid (Hml.out v2 v3 w3 (N32Post.keep hv2 hb3) hv3)
  go_wp2_with (fail)
  refine (HD.out).mono ?_
  rintro e w4 ⟨v4, rfl, hv4, hb4⟩
  have b4 := below_on b3 b3.size hb4
  have HE := Lib.hid (Hq.out v1 v4 w4 (N32Post.keep (N32Post.keep (N32Post.keep hv1 hb2) hb3) hb4) hv4)
  go_wp2_with (fail)
  refine (HE.out).mono ?_
  rintro e w5 ⟨rfl, hb5⟩
  go_wp2
  go_ret
  exact ⟨rfl, below_on b4 b4.size hb5⟩
end Go.Proofs.YthgekjkgfccnaaaGreat
