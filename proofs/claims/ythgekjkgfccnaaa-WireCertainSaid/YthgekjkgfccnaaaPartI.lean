/- Part of the proof of WireCertain: CoilH, RCut, CoilM, CoilZ, WCert. -/
import Derived.Test.YthgekjkgfccnaaaPartH
import Derived.Test.YthgekjkgfccnaaaPartC
import Derived.StillTailTactics
import Derived.BigQuiet
/- Plain: the found numbers are numbered by first use, their count is the least, and what the reference's Cutting makes of a list of numbers. -/
namespace Go.Proofs.Ythgekjkgfccnaaa
def useF : Nat → List Nat → Nat
  | u, [] => u
  | u, k :: ks => useF (if k = u then u + 1 else u) ks
def firstUse : Nat → List Nat → Prop
  | _, [] => True
  | u, k :: ks => k ≤ u ∧ firstUse (if k = u then u + 1 else u) ks
theorem useF_cons (u k : Nat) (ks : List Nat) : useF u (k :: ks) = useF (if k = u then u + 1 else u) ks := rfl
theorem useF_ge : ∀ (u : Nat) (ks : List Nat), u ≤ useF u ks
  | _, [] => Nat.le_refl _
  | u, k :: ks => by
    unfold useF
    have := useF_ge (if k = u then u + 1 else u) ks
    split at this <;> (split <;> omega)
theorem useF_len : ∀ (u : Nat) (ks : List Nat), useF u ks ≤ u + ks.length
  | _, [] => Nat.le_refl _
  | u, k :: ks => by
    unfold useF
    have := useF_len (if k = u then u + 1 else u) ks
    rw [List.length_cons]
    split at this <;> (split <;> omega)
theorem useF_le {K : Nat} : ∀ (u : Nat) (ks : List Nat), u ≤ K → (∀ k ∈ ks, k < K) → useF u ks ≤ K
  | _, [], h, _ => h
  | u, k :: ks, h, hk => by
    unfold useF
    have := hk k (by simp)
    exact useF_le _ ks (by split <;> omega) fun x hx => hk x (by simp [hx])
theorem firstUse_lt : ∀ {u : Nat} {ks : List Nat}, firstUse u ks → ∀ k ∈ ks, k < useF u ks
  | _, [], _, _, h => by simp at h
  | u, k :: ks, h, x, hx => by
    unfold useF
    rcases List.mem_cons.1 hx with e | hx
    · subst e
      have := useF_ge (if x = u then u + 1 else u) ks
      have h1 := h.1
      split at this <;> (split <;> omega)
    · exact firstUse_lt h.2 x hx
/-- Two rooms change places. -/
def swapN (u k c : Nat) : Nat := if c = u then k else if c = k then u else c
theorem swapN_iff (u k x c : Nat) : swapN u k x = c ↔ x = swapN u k c := by
  unfold swapN
  split <;> split <;> (try split) <;> (try split) <;> omega
theorem laid_swap {P rooms : List Int} {b : Nat → Nat} {u k : Nat} {p : Int} (hu : u < rooms.length) (hk : k < rooms.length) (he : rooms.getD u 0 = rooms.getD k 0)
    (h : Laid P (rooms.set k (rooms.getD k 0 - p)) b) : Laid P (rooms.set u (rooms.getD u 0 - p)) (fun i => swapN u k (b i)) := by
  have hl : ∀ c, c < rooms.length → swapN u k c < rooms.length := by
    intro c hc
    unfold swapN
    split
    · omega
    · split <;> omega
  refine ⟨fun i hi => ?_, fun c hc => ?_⟩
  · have := h.1 i hi
    rw [List.length_set] at this ⊢
    exact hl _ this
  · rw [List.length_set] at hc
    have h1 := h.2 (swapN u k c) (by rw [List.length_set]; exact hl c hc)
    have e1 : sumN (fun i => if swapN u k (b i) = c then P.getD i 0 else 0) P.length = sumN (fun i => if b i = swapN u k c then P.getD i 0 else 0) P.length :=
      sumN_congr fun i _ => by simp only [swapN_iff]
    show sumN (fun i => if swapN u k (b i) = c then P.getD i 0 else 0) P.length ≤ _
    rw [e1]
    refine Int.le_trans h1 (Int.le_of_eq ?_)
    by_cases c1 : c = u
    · subst c1
      rw [show swapN c k c = k by simp [swapN], getD_set_eqI hk, getD_set_eqI hu, he]
    · by_cases c2 : c = k
      · subst c2
        rw [show swapN u c c = u by simp [swapN, c1], getD_set_neI (Ne.symm c1), getD_set_neI c1, he]
      · rw [show swapN u k c = c by simp [swapN, c1, c2], getD_set_neI c2, getD_set_neI c1]
theorem greedy_first {X : Int} : ∀ {P rooms : List Int} {ks : List Nat} {u : Nat}, PiecesOk P → RoomsOk rooms → Greedy P rooms ks → (∀ c, u ≤ c → c < rooms.length → rooms.getD c 0 = X) → firstUse u ks
  | [], _, [], _, _, _, _, _ => trivial
  | [], _, _ :: _, _, _, _, h, _ => h.elim
  | _ :: _, _, [], _, _, _, h, _ => h.elim
  | p :: ps, rooms, k :: ks, u, hP, hr, h, hx => by
    obtain ⟨⟨hk, hc, hl⟩, hg⟩ := h
    obtain ⟨h3, b, hb⟩ := (canF_iff hP hr hk).1 hc
    have hku : k ≤ u := by
      refine Nat.le_of_not_lt fun hlt => ?_
      have hu : u < rooms.length := by omega
      have he : rooms.getD u 0 = rooms.getD k 0 := by rw [hx u (Nat.le_refl _) hu, hx k (by omega) hk]
      have h1 := hl u hlt
      rw [(canF_iff hP hr hu).2 ⟨by rw [he]; exact h3, _, laid_swap hu hk he hb⟩] at h1
      exact absurd h1 (by decide)
    refine ⟨hku, greedy_first (X := X) hP.tail (hr.less hk hP.head.1 h3) hg fun c hc hcl => ?_⟩
    rw [List.length_set] at hcl
    rw [getD_set_neI (by split at hc <;> omega)]
    exact hx c (by split at hc <;> omega) hcl
theorem getD_rep {n c : Nat} {X : Int} (h : c < n) : (List.replicate n X).getD c 0 = X := by
  simp [List.getD_eq_getElem?_getD, List.getElem?_replicate, h]
theorem rooms_rep {n : Nat} {X : Int} (h : 0 ≤ X ∧ X ≤ 1000000000) : RoomsOk (List.replicate n X) := fun r hr => by rw [List.eq_of_mem_replicate hr]; exact h
theorem last_laid2 (P rooms : List Int) (hr : RoomsOk rooms) (h : lastF P rooms < rooms.length) :
    ∃ a : Nat → Nat, (∀ i, i < P.length → a i ≤ lastF P rooms) ∧ ∀ c, c < rooms.length → sumN (fun i => if a i = c then P.getD i 0 else 0) P.length ≤ rooms.getD c 0 := by
  have hpow := Nat.two_pow_pos P.length
  have := out_real P rooms hr (tab_real P rooms hr) (2 ^ P.length) (by rw [tab_len]; exact Nat.le_refl _) (2 ^ P.length - 1) (by rw [out_len, tab_len]; omega) h
  obtain ⟨a, h1, h2, h3, h4⟩ := this
  refine ⟨a, fun i hi => h1 i hi (by simp [Nat.testBit_two_pow_sub_one, hi]), fun c hc => ?_⟩
  rw [← load_full]
  by_cases e : c = lastF P rooms
  · rw [e]; exact Int.le_trans h3 h4
  · exact h2 c hc e
section
variable {P : List Int} {coil : Int}
theorem own_laid (hc : ∀ p ∈ P, p ≤ coil) : Laid P (List.replicate P.length coil) id := by
  refine ⟨fun i hi => by rw [List.length_replicate]; exact hi, fun c hcl => ?_⟩
  rw [List.length_replicate] at hcl
  show sumN (fun i => if i = c then P.getD i 0 else 0) P.length ≤ _
  rw [getD_rep hcl, sumN_upd (f := fun _ => 0) hcl fun j _ hj => if_neg hj, sumN_zero (f := fun _ => (0 : Int)) fun _ _ => rfl, if_pos rfl]
  have := hc P[c] (List.getElem_mem hcl)
  have e : P.getD c 0 = P[c] := by simp [hcl]
  omega
theorem last_lt (hP : PiecesOk P) (hc : ∀ p ∈ P, p ≤ coil) (hne : 0 < P.length) : lastF P (List.replicate P.length coil) < P.length := by
  have := laid_last P (List.replicate P.length coil) hP (by rw [List.length_replicate]; exact hne) (own_laid hc)
  rwa [List.length_replicate] at this
/-- The count is enough. -/
theorem count_laid (hP : PiecesOk P) (hc : ∀ p ∈ P, p ≤ coil) (hcoil : 1 ≤ coil ∧ coil ≤ 1000000000) (hne : 0 < P.length) : ∃ a, Laid P (List.replicate (lastF P (List.replicate P.length coil) + 1) coil) a := by
  have hlt := last_lt hP hc hne
  obtain ⟨a, h1, h2⟩ := last_laid2 P (List.replicate P.length coil) (rooms_rep (by omega)) (by rw [List.length_replicate]; exact hlt)
  refine ⟨a, fun i hi => by rw [List.length_replicate]; have := h1 i hi; omega, fun c hcl => ?_⟩
  rw [List.length_replicate] at hcl
  have := h2 c (by rw [List.length_replicate]; omega)
  rw [getD_rep (by omega)] at this
  rw [getD_rep hcl]; exact this
/-- No fewer do. -/
theorem count_le {n : Nat} {a : Nat → Nat} (hP : PiecesOk P) (hne : 0 < P.length) (hn : n ≤ P.length) (h : Laid P (List.replicate n coil) a) : lastF P (List.replicate P.length coil) + 1 ≤ n := by
  have h0 := h.1 0 hne
  rw [List.length_replicate] at h0
  have hpow := Nat.two_pow_pos P.length
  have := fin_cmp P (List.replicate P.length coil) hP a (2 ^ P.length - 1) (by omega) (n - 1) (by rw [List.length_replicate]; omega)
    (fun i hi _ => by have := h.1 i hi; rw [List.length_replicate] at this; omega)
    (fun c hcl => by rw [load_full, getD_rep (by omega)]; have := h.2 c (by rw [List.length_replicate]; omega); rwa [getD_rep (by omega)] at this)
  rw [lastF_fin]
  rcases this with h1 | ⟨h1, _⟩
  · simp only at h1; omega
  · simp only at h1; omega
end
/-- What the reference's Cutting makes of numbers. -/
def cutF (coil : Int) : (Nat → Int) → Nat → List Int → List Int → Int
  | _, u, [], [] => u
  | S, u, p :: ps, o :: os =>
    if o < 0 ∨ (u : Int) < o then -1 else
      if coil < S o.toNat + p then -1 else cutF coil (fun c => if c = o.toNat then S o.toNat + p else S c) (if o = u then u + 1 else u) ps os
  | _, _, _, _ => -1
theorem cutF_of (coil : Int) : ∀ {S : Nat → Int} {u : Nat} {ps os : List Int}, (∀ c, S c ≤ coil) → 0 ≤ cutF coil S u ps os →
    ∃ ks : List Nat, os = ks.map (fun k : Nat => (k : Int)) ∧ firstUse u ks ∧ cutF coil S u ps os = useF u ks ∧ ks.length = ps.length ∧
      ∀ c, S c + sumN (fun i => if ks.getD i 0 = c then ps.getD i 0 else 0) ps.length ≤ coil
  | S, u, [], [], hS, _ => ⟨[], rfl, trivial, rfl, rfl, fun c => by simp only [List.length_nil, sumN]; have := hS c; omega⟩
  | _, _, [], _ :: _, _, h => by simp [cutF] at h
  | _, _, _ :: _, [], _, h => by simp [cutF] at h
  | S, u, p :: ps, o :: os, hS, h => by
    unfold cutF at h ⊢
    by_cases c1 : o < 0 ∨ (u : Int) < o
    · rw [if_pos c1] at h; omega
    · rw [if_neg c1] at h ⊢
      by_cases c2 : coil < S o.toNat + p
      · rw [if_pos c2] at h; omega
      · rw [if_neg c2] at h ⊢
        obtain ⟨ks, e1, e2, e3, e4, e5⟩ := cutF_of coil (S := fun c => if c = o.toNat then S o.toNat + p else S c) (by
          intro c
          show (if c = o.toNat then S o.toNat + p else S c) ≤ coil
          split
          · omega
          · exact hS c) h
        have eo : ((o.toNat : Nat) : Int) = o := by omega
        have eu : (if o.toNat = u then u + 1 else u) = (if o = u then u + 1 else u) := by split <;> (split <;> omega)
        refine ⟨o.toNat :: ks, by rw [List.map_cons, eo, e1], ⟨by omega, by rw [eu]; exact e2⟩, by rw [e3, useF_cons, eu], by simp [e4], fun c => ?_⟩
        have := e5 c
        rw [load_cons p ps]
        simp only [List.getD_cons_zero, List.getD_cons_succ] at this ⊢
        by_cases ec : c = o.toNat
        · subst ec; rw [if_pos rfl] at this ⊢; omega
        · rw [if_neg ec] at this; rw [if_neg (Ne.symm ec)]; omega
theorem cutF_to (coil : Int) : ∀ {S : Nat → Int} {u : Nat} {ps : List Int} {ks : List Nat}, PiecesOk ps → firstUse u ks → ks.length = ps.length →
    (∀ c, S c + sumN (fun i => if ks.getD i 0 = c then ps.getD i 0 else 0) ps.length ≤ coil) → cutF coil S u ps (ks.map fun k : Nat => (k : Int)) = useF u ks
  | _, _, [], [], _, _, _, _ => rfl
  | _, _, [], _ :: _, _, _, h, _ => by simp at h
  | _, _, _ :: _, [], _, _, h, _ => by simp at h
  | S, u, p :: ps, k :: ks, hP, hf, hl, h => by
    have hk := hf.1
    have hsum : ∀ c, S c + ((if k = c then p else 0) + sumN (fun i => if ks.getD i 0 = c then ps.getD i 0 else 0) ps.length) ≤ coil := fun c => by
      have := h c
      rw [load_cons] at this
      exact this
    have hnn : ∀ c, 0 ≤ sumN (fun i => if ks.getD i 0 = c then ps.getD i 0 else 0) ps.length := fun c => sum_nonneg hP.tail (fun i => ks.getD i 0) c
    rw [List.map_cons]
    unfold cutF
    rw [useF_cons, if_neg (by omega), Int.toNat_natCast]
    have h1 := hsum k
    have h2 := hnn k
    rw [if_pos rfl] at h1
    rw [if_neg (by omega), show (if (k : Int) = u then u + 1 else u) = (if k = u then u + 1 else u) by split <;> (split <;> omega)]
    refine cutF_to coil hP.tail hf.2 (by simpa using hl) fun c => ?_
    have h3 := hsum c
    show (if c = k then S k + p else S c) + _ ≤ coil
    by_cases ec : c = k
    · subst ec; rw [if_pos rfl] at h3 ⊢; omega
    · rw [if_neg ec]; rw [if_neg (Ne.symm ec)] at h3; omega
end Go.Proofs.Ythgekjkgfccnaaa

namespace Go.Proofs.Ythgekjkgfccnaaa
open Go.RowKit Num

theorem cutF_len (coil : Int) : ∀ (S : Nat → Int) (u : Nat) (ps os : List Int), os.length ≠ ps.length → cutF coil S u ps os = -1
  | _, _, [], [], h => absurd rfl h
  | _, _, [], _ :: _, _ => rfl
  | _, _, _ :: _, [], _ => rfl
  | S, u, p :: ps, o :: os, h => by
    unfold cutF
    split
    · rfl
    · split
      · rfl
      · exact cutF_len coil _ _ ps os (by simpa using h)
/-- The sums in cells. -/
def sumL (S : List Int) : Nat → Int := fun c => S.getD c 0
theorem cutF_bad {coil o p : Int} {S : Nat → Int} {u : Nat} {ps os : List Int} (h : o < 0 ∨ (u : Int) < o) : cutF coil S u (p :: ps) (o :: os) = -1 := by
  unfold cutF; rw [if_pos h]
theorem cutF_full {coil p s : Int} {S : List Int} {u k : Nat} {ps os : List Int} (hk : k ≤ u) (hs : S[k]? = some s) (h : coil < s + p) : cutF coil (sumL S) u (p :: ps) ((k : Int) :: os) = -1 := by
  unfold cutF
  have e : sumL S k = s := by unfold sumL; rw [List.getD_eq_getElem?_getD, hs]; rfl
  rw [if_neg (by omega), Int.toNat_natCast, e, if_pos h]
theorem cutF_next {coil p s : Int} {S : List Int} {u k : Nat} {ps os : List Int} (hk : k ≤ u) (hs : S[k]? = some s) (h : ¬ coil < s + p) :
    cutF coil (sumL S) u (p :: ps) ((k : Int) :: os) = cutF coil (sumL (S.set k (s + p))) (if (k : Int) = u then u + 1 else u) ps os := by
  have e : sumL S k = s := by unfold sumL; rw [List.getD_eq_getElem?_getD, hs]; rfl
  have hl := (List.getElem?_eq_some_iff.1 hs).1
  rw [cutF, if_neg (by omega), Int.toNat_natCast, e, if_neg h]
  congr 1
  funext c
  by_cases ec : c = k
  · subst ec; rw [if_pos rfl]; unfold sumL; rw [getD_set_eqI hl]
  · rw [if_neg ec]; unfold sumL; rw [getD_set_neI ec]
theorem sumL_rep (n : Nat) : sumL (List.replicate n 0) = fun _ => 0 := by
  funext c
  unfold sumL
  rw [List.getD_eq_getElem?_getD, List.getElem?_replicate]
  split <;> rfl
theorem make_ints (n : Nat) (h : n ≤ 100) (w : World) : (Instr.makeSlice 30 (.int .i64 (n : Int)) (.int .i64 (n : Int))).run Try.prog w = .ok (.slice (some ⟨w.heap.size, 0, none⟩) n n) (w.alloc (.cells (Array.replicate n (.int .i64 0)) 3)) :=
  run_make_same (P := Try.prog) 30 3 (.int .i64 0) (.int .i64 0) 1 8 Try.underlying30 infoI rfl (by omega) n n (by omega) (by omega) (by omega) w
theorem i_next {i : Nat} (h : i < 100) : wrap64 ((i : Int) + 1) = (i : Int) + 1 ∧ IntKind.i64.wrap ((i : Int) + 1) = (i : Int) + 1 := ⟨by unfold wrap64; omega, wrapI (by omega) (by omega)⟩
theorem s_next {s p : Int} (h : 0 ≤ s ∧ s ≤ 1000000000) (h' : 1 ≤ p ∧ p ≤ 1000000000) : wrap64 (s + p) = s + p ∧ IntKind.i64.wrap (s + p) = s + p := ⟨by unfold wrap64; omega, wrapI (by omega) (by omega)⟩
set_option maxHeartbeats 4000000 in
set_option maxRecDepth 100000 in
theorem refCutting_any (A B : Option Addr) (cA cB LA LB : Nat) (l os : List Int) (coil : Int) (w : World) (hA : Ints w A l) (hB : Ints w B os) (hLA : LA = l.length) (hLB : LB = os.length) (hl : LA ≤ 14)
    (hp : PiecesOk l) (hc : 1 ≤ coil ∧ coil ≤ 1000000000) : Calls Try.prog 27 #[.slice A LA cA, .int .i64 coil, .slice B LB cB] w (IntB w (cutF coil (fun _ => 0) 0 l os)) := by
  by_cases hne : LB = LA
  · have hwA := make_ints (LA + 1) (by omega)
    push_cast at hwA
    have hR : Hid (cutF coil (sumL (List.replicate (LA + 1) 0)) 0 (l.drop 0) (os.drop 0) = cutF coil (fun _ => 0) 0 l os) := Lib.hid (by rw [sumL_rep, List.drop_zero, List.drop_zero])
    have hbk : Blk 3 (w.alloc (.cells (Array.replicate (LA + 1) (.int .i64 0)) 3)) w.heap.size (is (List.replicate (LA + 1) 0)) := by
      have := Blk.new w 3 (is (List.replicate (LA + 1) 0))
      have e : (is (List.replicate (LA + 1) 0)).toArray = Array.replicate (LA + 1) (.int .i64 0) := by simp [is]
      rwa [e] at this
    have hbl := below_new w (.cells (Array.replicate (LA + 1) (.int .i64 0)) 3)
    generalize cutF coil (fun _ => 0) 0 l os = R at *
    have HA := Lib.hid hA
    have HB := Lib.hid hB
    have HLA := Lib.hid hLA
    have HLB := Lib.hid hLB
    have HBK := Lib.hid hbk
    have hN1 : wrap64 ((LA : Int) + 1) = (LA : Int) + 1 := by unfold wrap64; omega
    have hN2 : IntKind.i64.wrap ((LA : Int) + 1) = (LA : Int) + 1 := wrapI (by omega) (by omega)
    subst hne
    clear hA hB hLA hLB hbk
    go_enter Try.func27, Try.ntmps27
    go_wp2
    go_loopw [7, 9] (fun uv t wr => ∃ (i u : Nat) (S : List Int), i ≤ LB ∧ u ≤ i ∧ t = .int .i64 (i : Int) ∧ uv = .int .i64 (u : Int) ∧ Hid (cutF coil (sumL S) u (l.drop i) (os.drop i) = R) ∧ Hid (S.length = LB + 1) ∧ Hid (∀ s ∈ S, 0 ≤ s ∧ s ≤ coil) ∧ Blk 3 wr w.heap.size (is S) ∧ Below w.heap.size w wr) (fun _ t _ => LB - (intOf t).toNat)
    case atStart => exact ⟨0, 0, _, Nat.zero_le _, Nat.zero_le _, rfl, rfl, hR, Lib.hid (by simp), Lib.hid (fun s hs => by rw [List.eq_of_mem_replicate hs]; omega), HBK.out, hbl⟩
    case round =>
      clear hwA hN1 hN2 hbl hR
      obtain ⟨i, u, S, hi, hu, rfl, rfl, HF, HSL, HSB, hbS, hbw⟩ := hrel
      by_cases hlt : i < LB
      · obtain ⟨g, off, p, rfl, hg, hpi, hcp⟩ := Ints.at_ (HA.out.keep hbw) (i := i) (by have := HLA.out; omega)
        obtain ⟨g', off', o, rfl, hg', hoi, hco⟩ := Ints.at_ (HB.out.keep hbw) (i := i) (by have := HLB.out; omega)
        have hpp := hp p (List.mem_of_getElem? hpi)
        have hf := HF.out
        have e1 : l.drop i = p :: l.drop (i + 1) := by
          obtain ⟨h1, h2⟩ := List.getElem?_eq_some_iff.1 hpi
          rw [List.drop_eq_getElem_cons h1, h2]
        have e2 : os.drop i = o :: os.drop (i + 1) := by
          obtain ⟨h1, h2⟩ := List.getElem?_eq_some_iff.1 hoi
          rw [List.drop_eq_getElem_cons h1, h2]
        rw [e1, e2] at hf
        have hMS := Lib.hid (show LB - (i + 1) < LB - i by omega)
        have hiL := Lib.hid (show i + 1 ≤ LB from hlt)
        have hi14 : (i : Int) ≤ 14 := by omega
        have HOI := Lib.hid hoi
        clear hpi hoi e1 e2
        by_cases t1 : o < 0
        · rw [cutF_bad (.inl t1)] at hf
          have d1 := lt_t t1
          subst hf
          clear t1
          go_wp2
          go_ret
          exact ⟨rfl, hbw⟩
        · obtain ⟨k, rfl⟩ : ∃ k : Nat, o = (k : Int) := ⟨o.toNat, by omega⟩
          by_cases t2 : (u : Int) < (k : Int)
          · rw [cutF_bad (.inr t2)] at hf
            have d2 : decide (u < k) = true := by simpa using t2
            have d3 : ¬ (k : Int) < 0 := by omega
            subst hf
            have t3 : u < k := by omega
            clear t2
            go_wp2
            go_ret
            exact ⟨rfl, hbw⟩
          · have hku : k ≤ u := by omega
            have hks : k < S.length := by have := HSL.out; omega
            obtain ⟨s, hs⟩ : ∃ s, S[k]? = some s := ⟨S[k], List.getElem?_eq_getElem hks⟩
            have hsb := HSB.out s (List.mem_of_getElem? hs)
            have cS := (hbS.drew.cell k).trans (is_at hs)
            have fS := hbS.drew.frozen
            have hst := hbS.drew.set k (.int .i64 (s + p))
            rw [is_set] at hst
            have HST := Lib.hid hst
            have cS2 := (HST.out.cell k).trans (is_at (List.getElem?_set_self hks))
            have hb2 := below_set hbw.drew (Nat.le_refl _) (i := k) (.int .i64 (s + p))
            have hB2 : ¬ coil < s + p → ∀ x ∈ S.set k (s + p), 0 ≤ x ∧ x ≤ coil := fun t5 x hx => by
              rcases List.mem_or_eq_of_mem_set hx with hx | hx
              · exact HSB.out x hx
              · omega
            obtain ⟨g2, off2, o2, eo, hg2, ho2, hc2⟩ := Ints.at_ (HB.out.keep hb2) (i := i) (by have := HLB.out; omega)
            injection eo with eo
            injection eo with eo1 eo2
            subst eo1 eo2
            rw [HOI.out] at ho2
            injection ho2 with ho2
            subst ho2
            have hk15 : k < LB + 1 := by omega
            have hk16 : (k : Int) < (LB : Int) + 1 := by omega
            have hk17 : k ≤ LB := by omega
            have hk18 : (k : Int) ≤ (LB : Int) := by omega
            have b1 : i < 100 := by omega
            have b2 : k < 100 := by omega
            have b3 : 0 ≤ s ∧ s ≤ 1000000000 := by omega
            have b4 : k + 1 ≤ i + 1 := by omega
            have b5 : u ≤ i + 1 := by omega
            have hk0 : decide ((k : Int) < 0) = false := by simp
            by_cases t4 : k = u
            · subst t4
              obtain ⟨n1, n2⟩ := i_next (i := i) b1
              obtain ⟨n3, n4⟩ := i_next (i := k) b2
              obtain ⟨n5, n6⟩ := s_next (s := s) (p := p) b3 hpp
              by_cases t5 : coil < s + p
              · rw [cutF_full hku hs t5] at hf
                have d5 := lt_t t5
                subst hf
                clear t5 t2 hs hst
                go_wp2_with (fail)
                go_still_tail 13, (by kernel_rfl)
                change wpList _ _ _ _ _ wr.drew
                have hbd := hbw.drew
                generalize wr.drew = wd at *
                go_wp2
                go_ret
                exact ⟨rfl, below_set hbd (Nat.le_refl _) _⟩
              · rw [cutF_next hku hs t5, if_pos rfl] at hf
                have d5 := lt_f t5
                have HN := Lib.hid hf
                have HSL2 := Lib.hid (show (S.set k (s + p)).length = LB + 1 by rw [List.length_set]; exact HSL.out)
                have HSB2 : Hid (∀ x ∈ S.set k (s + p), 0 ≤ x ∧ x ≤ coil) := Lib.hid (hB2 t5)
                clear t5 t2 hs hst hf
                go_wp2_with (fail)
                go_still_tail 13, (by kernel_rfl)
                change wpList _ _ _ _ _ wr.drew
                have hbd := hbw.drew
                generalize wr.drew = wd at *
                go_wp2
                go_roundw
                case rel => exact ⟨i + 1, k + 1, _, hiL.out, b4, by go_num, by go_num, HN, HSL2, HSB2, HST.out, below_set hbd (Nat.le_refl _) _⟩
                case measure =>
                  have hm := hMS.out
                  clear n1 n5
                  try clear n3
                  simp [intOf]
                  omega
            · have hkn : ¬ (k : Int) = (u : Int) := by omega
              have d4 : ((k : Int) == (u : Int)) = false := by simpa using hkn
              obtain ⟨n1, n2⟩ := i_next (i := i) b1
              obtain ⟨n5, n6⟩ := s_next (s := s) (p := p) b3 hpp
              clear t4
              by_cases t5 : coil < s + p
              · rw [cutF_full hku hs t5] at hf
                have d5 := lt_t t5
                subst hf
                clear t5 t2 hs hst
                go_wp2_with (fail)
                go_still_tail 13, (by kernel_rfl)
                change wpList _ _ _ _ _ wr.drew
                have hbd := hbw.drew
                generalize wr.drew = wd at *
                go_wp2
                go_ret
                exact ⟨rfl, below_set hbd (Nat.le_refl _) _⟩
              · rw [cutF_next hku hs t5, if_neg hkn] at hf
                have d5 := lt_f t5
                have HN := Lib.hid hf
                have HSL2 := Lib.hid (show (S.set k (s + p)).length = LB + 1 by rw [List.length_set]; exact HSL.out)
                have HSB2 : Hid (∀ x ∈ S.set k (s + p), 0 ≤ x ∧ x ≤ coil) := Lib.hid (hB2 t5)
                clear t5 t2 hs hst hf
                go_wp2_with (fail)
                go_still_tail 13, (by kernel_rfl)
                change wpList _ _ _ _ _ wr.drew
                have hbd := hbw.drew
                generalize wr.drew = wd at *
                go_wp2
                go_roundw
                case rel => exact ⟨i + 1, u, _, hiL.out, b5, by go_num, rfl, HN, HSL2, HSB2, HST.out, below_set hbd (Nat.le_refl _) _⟩
                case measure =>
                  have hm := hMS.out
                  clear n1 n5
                  try clear n3
                  simp [intOf]
                  omega
      · have hil : i = LB := by omega
        have hf := HF.out
        rw [List.drop_eq_nil_of_le (by have := HLA.out; omega), List.drop_eq_nil_of_le (by have := HLB.out; omega)] at hf
        have hf2 : (u : Int) = R := hf
        subst hf2
        subst hil
        clear hf
        go_wp2
        go_ret
        exact ⟨rfl, hbw⟩
  · have hcl := cutF_len coil (fun _ => 0) 0 l os (by omega)
    rw [hcl]
    have hd : ((LB : Int) != (LA : Int)) = true := by simp; omega
    clear hA hB hLA hLB hcl
    go_enter Try.func27, Try.ntmps27
    go_wp2
    go_ret
    exact ⟨rfl, Below.refl _ _⟩
end Go.Proofs.Ythgekjkgfccnaaa

/- Plain: no laying needs fewer coils than the lower bound. -/
namespace Go.Proofs.Ythgekjkgfccnaaa
/-- One for a piece longer than half a coil or than what k leaves. -/
def cntF (k coil p : Int) : Int := if coil - k < p then 1 else if coil < 2 * p then 1 else 0
/-- What a piece takes of a coil, at least. -/
def wgtF (k coil p : Int) : Int := if coil - k < p then coil else if coil < 2 * p then p else if k ≤ p then p else 0
theorem fold_cnt {k coil : Int} : ∀ (l : List Int) (t : Int × Int × Int),
    (l.foldl (bStep k coil) t).1 = t.1 + sumN (fun i => cntF k coil (l.getD i 0)) l.length ∧
    (l.foldl (bStep k coil) t).1 * coil - (l.foldl (bStep k coil) t).2.1 + (l.foldl (bStep k coil) t).2.2 = t.1 * coil - t.2.1 + t.2.2 + sumN (fun i => wgtF k coil (l.getD i 0)) l.length
  | [], t => by simp [sumN]
  | x :: l, (c, r, s) => by
    rw [List.foldl_cons, List.length_cons, sumN_front, sumN_front]
    obtain ⟨h1, h2⟩ := fold_cnt l (bStep k coil (c, r, s) x)
    simp only [List.getD_cons_zero, List.getD_cons_succ]
    rw [h1, ← h1, h2]
    have e : (bStep k coil (c, r, s) x).1 = c + cntF k coil x ∧ (bStep k coil (c, r, s) x).1 * coil - (bStep k coil (c, r, s) x).2.1 + (bStep k coil (c, r, s) x).2.2 = c * coil - r + s + wgtF k coil x := by
      unfold bStep cntF wgtF
      split
      · simp only; exact ⟨trivial, by grind⟩
      · split
        · simp only; exact ⟨trivial, by grind⟩
        · split
          · simp only; exact ⟨by omega, by grind⟩
          · simp only; exact ⟨by omega, by grind⟩
    rw [e.2, h1, e.1]
    constructor <;> omega
/-- What holds of one coil's sums. -/
theorem one_coil {k coil : Int} (hk : 0 ≤ k) (hkc : 2 * k ≤ coil) (P : Nat → Int) (a : Nat → Nat) (c : Nat) : ∀ n, (∀ i, i < n → 1 ≤ P i) → sumN (fun i => if a i = c then P i else 0) n ≤ coil →
    0 ≤ sumN (fun i => if a i = c then P i else 0) n ∧
    ((sumN (fun i => if a i = c then wgtF k coil (P i) else 0) n ≤ sumN (fun i => if a i = c then P i else 0) n ∧
        (sumN (fun i => if a i = c then wgtF k coil (P i) else 0) n = 0 ∨ k ≤ sumN (fun i => if a i = c then P i else 0) n)) ∨
      (sumN (fun i => if a i = c then wgtF k coil (P i) else 0) n ≤ coil ∧ coil - k < sumN (fun i => if a i = c then P i else 0) n)) ∧
    (sumN (fun i => if a i = c then cntF k coil (P i) else 0) n = 0 ∨
      (sumN (fun i => if a i = c then cntF k coil (P i) else 0) n = 1 ∧ coil < 2 * sumN (fun i => if a i = c then P i else 0) n))
  | 0, _, _ => by simp [sumN]
  | n + 1, hp, hs => by
    simp only [sumN] at hs ⊢
    have hpn := hp n (by omega)
    by_cases e : a n = c
    · rw [if_pos e] at hs
      simp only [if_pos e]
      have ih := one_coil hk hkc P a c n (fun i hi => hp i (by omega)) (by omega)
      generalize sumN (fun i => if a i = c then P i else 0) n = S at *
      generalize sumN (fun i => if a i = c then wgtF k coil (P i) else 0) n = W at *
      generalize sumN (fun i => if a i = c then cntF k coil (P i) else 0) n = C at *
      generalize P n = p at *
      unfold wgtF cntF
      split
      · omega
      · split
        · omega
        · split <;> omega
    · rw [if_neg e] at hs
      simp only [if_neg e, Int.add_zero] at hs ⊢
      exact one_coil hk hkc P a c n (fun i hi => hp i (by omega)) (by omega)
theorem sumN_const (x : Int) : ∀ n, sumN (fun _ => x) n = n * x
  | 0 => by simp [sumN]
  | n + 1 => by
    simp only [sumN]
    rw [sumN_const x n]
    push_cast
    grind
theorem bound_le {P : List Int} {coil k : Int} {n : Nat} {a : Nat → Nat} (hP : PiecesOk P) (hk : 0 ≤ k) (hkc : 2 * k ≤ coil) (hc : 1 ≤ coil) (h : Laid P (List.replicate n coil) a) : boundF k coil P ≤ n := by
  have hb : ∀ i, i < P.length → a i < n := fun i hi => by have := h.1 i hi; rwa [List.length_replicate] at this
  have hpp : ∀ i, i < P.length → 1 ≤ P.getD i 0 := fun i hi => by
    have := hP P[i] (List.getElem_mem hi)
    have e : P.getD i 0 = P[i] := by simp [hi]
    omega
  have hone := fun c (hcn : c < n) => one_coil hk hkc (fun i => P.getD i 0) a c P.length hpp (by have := h.2 c (by rw [List.length_replicate]; exact hcn); rwa [getD_rep hcn] at this)
  have hS := fun c (hcn : c < n) => (by have := h.2 c (by rw [List.length_replicate]; exact hcn); rwa [getD_rep hcn] at this : sumN (fun i => if a i = c then P.getD i 0 else 0) P.length ≤ coil)
  have h1 := sumN_label (fun i => cntF k coil (P.getD i 0)) a n P.length hb
  have h2 := sumN_label (fun i => wgtF k coil (P.getD i 0)) a n P.length hb
  have h3 := sumN_le (f := fun c => sumN (fun i => if a i = c then cntF k coil (P.getD i 0) else 0) P.length) (g := fun _ => 1) (n := n) fun c hcn => by
    have := (hone c hcn).2.2
    show sumN (fun i => if a i = c then cntF k coil (P.getD i 0) else 0) P.length ≤ 1
    omega
  have h4 := sumN_le (f := fun c => sumN (fun i => if a i = c then wgtF k coil (P.getD i 0) else 0) P.length) (g := fun _ => coil) (n := n) fun c hcn => by
    have := (hone c hcn).2.1
    have := hS c hcn
    show sumN (fun i => if a i = c then wgtF k coil (P.getD i 0) else 0) P.length ≤ coil
    omega
  rw [h1, sumN_const] at h3
  rw [h2, sumN_const] at h4
  obtain ⟨f1, f2⟩ := fold_cnt (k := k) (coil := coil) P (0, 0, 0)
  unfold boundF bFold bEnd
  generalize List.foldl (bStep k coil) (0, 0, 0) P = t at *
  obtain ⟨c, r, s⟩ := t
  simp only at *
  split
  · have : (s - r + coil - 1) / coil ≤ (n : Int) - c := div_lt_of (by omega) (by
      have e : ((n : Int) - c + 1) * coil = (n : Int) * coil - c * coil + coil := by grind
      rw [e]; omega)
    omega
  · omega
theorem fFold_le {l : List Int} {coil : Int} {n : Nat} {a : Nat → Nat} (hP : PiecesOk l) (hc : 1 ≤ coil) (h : Laid l (List.replicate n coil) a) : ∀ (m : List Int) (b : Int), (∀ x ∈ m, 1 ≤ x) → b ≤ n → m.foldl (fStep l coil) b ≤ n
  | [], _, _, hb => hb
  | x :: m, b, hm, hb => by
    rw [List.foldl_cons]
    refine fFold_le hP hc h m _ (fun y hy => hm y (by simp [hy])) ?_
    have hx := hm x (by simp)
    unfold fStep
    split
    · have := bound_le (k := x) hP (by omega) (by omega) hc h
      omega
    · exact hb
/-- The floor is no more than any laying's coils. -/
theorem floor_le {l : List Int} {coil : Int} {n : Nat} {a : Nat → Nat} (hP : PiecesOk l) (hc : 1 ≤ coil) (h : Laid l (List.replicate n coil) a) : floorF l coil ≤ n :=
  fFold_le hP hc h l _ (fun x hx => (hP x hx).1) (bound_le hP (Int.le_refl _) (by omega) hc h)
end Go.Proofs.Ythgekjkgfccnaaa

/- Plain: what WireCertain needs of the coils that are found. -/
namespace Go.Proofs.Ythgekjkgfccnaaa
/-- No cutting is better than the numbers that are found. -/
def NoBetter (coil : Int) (P : List Int) (K : Nat) (ks : List Nat) (os : List Int) : Prop :=
  cutF coil (fun _ => 0) 0 P os < 0 ∨ ((K : Int) ≤ cutF coil (fun _ => 0) 0 P os ∧ os.length = P.length ∧
    (cutF coil (fun _ => 0) 0 P os = K → ∀ i, i < P.length → (∀ j, j < i → os.getD j 0 = (ks.getD j 0 : Nat)) → ((ks.getD i 0 : Nat) : Int) ≤ os.getD i 0))
theorem certain_plain {P : List Int} {coil : Int} (hP : PiecesOk P) (hc : ∀ p ∈ P, p ≤ coil) (hcoil : 1 ≤ coil ∧ coil ≤ 1000000000) (hne : 0 < P.length) :
    ∃ (m : Nat) (ks : List Nat), lastF P (List.replicate P.length coil) = m ∧ m < P.length ∧ Greedy P (List.replicate (m + 1) coil) ks ∧ ks.length = P.length ∧
      cutF coil (fun _ => 0) 0 P (ks.map fun k : Nat => (k : Int)) = ((m + 1 : Nat) : Int) ∧ floorF P coil ≤ ((m + 1 : Nat) : Int) ∧ ∀ os, NoBetter coil P (m + 1) ks os := by
  obtain ⟨a, ha⟩ := count_laid hP hc hcoil hne
  have hlt := last_lt hP hc hne
  have hmin := fun {n : Nat} {a : Nat → Nat} => count_le (coil := coil) (n := n) (a := a) hP hne
  generalize lastF P (List.replicate P.length coil) = m at *
  have hr : RoomsOk (List.replicate (m + 1) coil) := rooms_rep (by omega)
  obtain ⟨ks, hg⟩ := greedy_ex hP hr ha
  have hkl := greedy_len hg
  have hla := greedy_laid hP hr hg
  have hfu : firstUse 0 ks := greedy_first (X := coil) hP hr hg fun c _ hcl => getD_rep (by rwa [List.length_replicate] at hcl)
  have hk : ∀ k ∈ ks, k < m + 1 := fun k hk => by
    obtain ⟨i, hi, e⟩ := List.getElem_of_mem hk
    have := hla.1 i (by omega)
    rw [List.length_replicate] at this
    simp only [List.getD_eq_getElem?_getD, List.getElem?_eq_getElem hi, Option.getD_some, e] at this
    exact this
  have hle : useF 0 ks ≤ m + 1 := useF_le 0 ks (by omega) hk
  -- a numbering by first use that keeps the coil is a laying into as many coils as it uses
  have hlay : ∀ os : List Nat, os.length = P.length → firstUse 0 os → (∀ c, (0 : Int) + sumN (fun i => if os.getD i 0 = c then P.getD i 0 else 0) P.length ≤ coil) → Laid P (List.replicate (useF 0 os) coil) (fun i => os.getD i 0) := by
    intro os h1 h2 h3
    refine ⟨fun i hi => ?_, fun c hcl => ?_⟩
    · rw [List.length_replicate]
      have hi' : i < os.length := by omega
      have := firstUse_lt h2 os[i] (List.getElem_mem hi')
      simp only [List.getD_eq_getElem?_getD, List.getElem?_eq_getElem hi', Option.getD_some]
      exact this
    · rw [List.length_replicate] at hcl
      rw [getD_rep hcl]
      have := h3 c
      show sumN (fun i => if os.getD i 0 = c then P.getD i 0 else 0) P.length ≤ coil
      omega
  have hsum : ∀ c, (0 : Int) + sumN (fun i => if ks.getD i 0 = c then P.getD i 0 else 0) P.length ≤ coil := fun c => by
    by_cases hcl : c < m + 1
    · have : sumN (fun i => if ks.getD i 0 = c then P.getD i 0 else 0) P.length ≤ _ := hla.2 c (by rw [List.length_replicate]; exact hcl)
      rw [getD_rep hcl] at this
      omega
    · have : sumN (fun i => if ks.getD i 0 = c then P.getD i 0 else 0) P.length = 0 := sumN_zero fun i hi => if_neg fun e => by
        have : ks.getD i 0 < _ := hla.1 i hi
        rw [List.length_replicate] at this
        omega
      omega
  have hge : m + 1 ≤ useF 0 ks := hmin (by have := useF_len 0 ks; omega) (hlay ks hkl hfu hsum)
  have hcut : cutF coil (fun _ => 0) 0 P (ks.map fun k : Nat => (k : Int)) = ((m + 1 : Nat) : Int) := by
    rw [cutF_to coil hP hfu hkl hsum, show useF 0 ks = m + 1 by omega]
  refine ⟨m, ks, rfl, hlt, hg, hkl, hcut, floor_le hP hcoil.1 ha, fun os => ?_⟩
  unfold NoBetter
  by_cases h0 : cutF coil (fun _ => 0) 0 P os < 0
  · exact .inl h0
  · right
    obtain ⟨js, e1, e2, e3, e4, e5⟩ := cutF_of coil (S := fun _ => 0) (fun _ => by show (0 : Int) ≤ coil; omega) (Int.not_lt.1 h0)
    have hl2 := hlay js e4 e2 e5
    have hK := hmin (by have := useF_len 0 js; omega) hl2
    refine ⟨by rw [e3]; omega, by rw [e1]; simp [e4], fun hn i hi hj => ?_⟩
    rw [e3] at hn
    have hn2 : useF 0 js = m + 1 := by omega
    rw [hn2] at hl2
    have hget : ∀ j, j < P.length → os.getD j 0 = ((js.getD j 0 : Nat) : Int) := fun j hj => by
      have hj' : j < js.length := by omega
      rw [e1]
      simp [List.getD_eq_getElem?_getD, hj']
    have := greedy_least hP hr hg hl2 hi fun j hji => by
      have h1 := hj j hji
      rw [hget j (by omega)] at h1
      exact_mod_cast h1.symm
    rw [hget i hi]
    exact_mod_cast this
end Go.Proofs.Ythgekjkgfccnaaa

namespace Go.Proofs.Ythgekjkgfccnaaa
open Go.RowKit Num

/-- What the found coils are, as the walk wants it. -/
structure Found (coil : Nat) (P : List Int) (K : Nat) (ks : List Nat) : Prop where
  le : K ≤ P.length
  len : ks.length = P.length
  coils : ∀ A cp w, Ints w A P → P.length ≤ cp → Calls Try.prog 26 #[.slice A P.length cp, .int .i64 (coil : Int)] w (fun e w' => ∃ g, e = .returned (.tuple #[.slice (some ⟨g, 0, none⟩) P.length P.length, .int .i64 (K : Int), .int .i64 0]) ∧ w.heap.size ≤ g ∧ Blk 3 w' g (is (nums ks)) ∧ Below w.heap.size w w')
  cut : cutF coil (fun _ => 0) 0 P (nums ks) = (K : Int)
  low : floorF P coil ≤ (K : Int)
  best : ∀ os, NoBetter coil P K ks os
theorem found {coil : Nat} {P : List Int} (hc : 1 ≤ (coil : Int) ∧ (coil : Int) ≤ 1000000000) (hl : P.length ≤ 14) (hx : ∀ p ∈ P, 1 ≤ p ∧ p ≤ (coil : Int)) (hne : 0 < P.length) : ∃ K ks, Found coil P K ks := by
  have hp : PiecesOk P := fun p h => by have := hx p h; omega
  obtain ⟨m, ks, h1, h2, h3, h4, h5, h6, h7⟩ := certain_plain hp (fun p h => (hx p h).2) hc hne
  refine ⟨m + 1, ks, by omega, h4, fun A cp w hA hcp => ?_, h5, h6, h7⟩
  have := coils_ok A cp P ks coil m w hA hcp (pcErr_of hl hc hx) hne hl hp hc h1 h2 h3
  unfold CoilsPost at this
  rw [h4] at this
  exact this
set_option maxHeartbeats 4000000 in
set_option maxRecDepth 100000 in
theorem coils_zero (A : Option Addr) (cp : Nat) (coil : Int) (w : World) (hA : Ints w A []) (hc : 1 ≤ coil ∧ coil ≤ 1000000000) :
    Calls Try.prog 26 #[.slice A 0 cp, .int .i64 coil] w (fun e w' => e = .returned (.tuple #[.slice none 0 0, .int .i64 0, .int .i64 0]) ∧ w = w') := by
  have hchk := checkPieces_any A cp 0 [] coil w hA rfl (by simp)
  rw [pcErr_of (l := []) (by simp) hc (by simp)] at hchk
  have HCH := Lib.hid hchk
  clear hchk hA
  go_enter Try.func26, Try.ntmps26
  go_wp2_with (fail)
  refine (HCH.out).mono ?_
  rintro e w0 ⟨rfl, rfl⟩
  go_wp2
  go_ret3
  exact ⟨rfl, rfl⟩
theorem floor_nil (coil : Int) : floorF [] coil = 0 := by simp [floorF, boundF, bFold, bEnd]
/-- What Cutting makes of no pieces. -/
theorem cut_nil (coil : Int) (zs : List Int) : (cutF coil (fun _ => 0) 0 [] zs = 0) ∨ cutF coil (fun _ => 0) 0 [] zs = -1 := by
  cases zs with
  | nil => left; rfl
  | cons z zs => right; rfl
set_option maxHeartbeats 4000000 in
set_option maxRecDepth 100000 in
theorem certain_walk (A B : Option Addr) (c L cB LB : Nat) (l os : List Int) (cv : Int) (w : World) (hA : Ints w A l) (hL : L = l.length) (hc : L ≤ c) (hnil : A = none → c = 0)
    (hB : Ints w B os) (hLB : LB = os.length) (hcB : LB ≤ cB) (hnilB : B = none → cB = 0) :
    Calls Try.prog 9 #[.slice A L c, .int .i64 cv, .slice B LB cB] w (LivesPost w) := by
  have hcut := cut_any A c L 14 l w hA hL hc hnil (by omega)
  have hcut2 := fun w1 (hb : Below w.heap.size w w1) => cut_any B cB LB 14 os w1 (hB.keep hb) hLB hcB hnilB (by omega)
  have hlen : (l.take 14).length ≤ 14 := by rw [List.length_take]; omega
  have hlen2 : (os.take 14).length ≤ 14 := by rw [List.length_take]; omega
  generalize l.take 14 = ys at *
  generalize os.take 14 = zs at *
  have hli := fun w1 => lives_any w1
  obtain ⟨coil, hc1, hc2, hfo⟩ := fold_nat cv 1000 (by omega) (by omega)
  have hfd := fun v w1 => fold_any v coil (by omega) (by omega) w1
  have hco : 1 ≤ (coil : Int) := by omega
  have hcc : 1 ≤ (coil : Int) ∧ (coil : Int) ≤ 1000000000 := by omega
  have hsl : (foldL (coil : Int) ys).length = ys.length := by simp [foldL]
  have hin := foldL_in hco ys
  have hpo : PiecesOk (foldL coil ys) := fun p h => by have := hin p h; omega
  have h0 : pcErr (foldL coil ys) coil = 0 := pcErr_of (by simp [foldL]; exact hlen) (by omega) hin
  have hfl := fun A c w1 (h : Ints w1 A (foldL coil ys)) => Floor_ok A c _ (foldL coil ys) coil w1 h rfl h0
  have hok := floorF_ok (l := foldL coil ys) (coil := coil) (by omega) hin
  have hrc := fun (A B : Option Addr) (cA cB LB : Nat) (os : List Int) w (hA : Ints w A (foldL coil ys)) (hB : Ints w B os) (hLB : LB = os.length) => refCutting_any A B cA cB _ LB (foldL coil ys) os coil w hA hB rfl hLB (by rw [hsl]; exact hlen) hpo hcc
  have hfound := found (coil := coil) (P := foldL coil ys) hcc (by rw [hsl]; exact hlen) hin
  rw [hsl] at hfl hrc hok
  generalize hP : foldL (coil : Int) ys = P at *
  have HP := Lib.hid hP
  have HCUT := Lib.hid hcut
  have HCUT2 := Lib.hid hcut2
  have HFL := Lib.hid hfl
  have HFO := Lib.hid hfo
  have HFD := Lib.hid hfd
  have HLI := Lib.hid hli
  have HRC := Lib.hid hrc
  have HFN := Lib.hid hfound
  have HOK := Lib.hid hok
  have HSL := Lib.hid hsl
  clear hcut hcut2 hfl hfo hfd hli hrc hfound hok hA hB hL hLB hnil hnilB h0 hP hsl hin hpo
  go_enter Try.func9, Try.ntmps9
  go_wp2_with (fail)
  refine (HCUT.out).mono ?_
  rintro e w1 ⟨g, cap, rfl, hcap, hg, hh, hb1⟩
  go_wp2_with (fail)
  refine (HCUT2.out w1 hb1).mono ?_
  rintro e w2 ⟨g2, cap2, rfl, hcap2, hg2, hh2, hb2⟩
  have hh' := hh.keep hb2
  have hg12 : g2 ≠ g := by have := hh.lt; omega
  have hgs : g < w1.heap.size := hh.lt
  have hbb := below_on hb1 hb1.size hb2
  have HH := Lib.hid hh'
  have HH2 := Lib.hid hh2
  have HBB := Lib.hid hbb
  clear hh hh2 hh' hb1 hb2 hbb
  go_wp2_with (fail)
  refine ((HFO.out _)).mono ?_
  rintro e w3 ⟨rfl, rfl⟩
  go_wp2
  go_loopw [9] (fun t wr => ∃ (i : Nat), i ≤ ys.length ∧ t = .int .i64 (i : Int) ∧ Hd 3 wr g cap (is (mixL coil ys i)) ∧ Hd 3 wr g2 cap2 (is zs) ∧ Below w.heap.size w wr) (fun t _ => ys.length - (intOf t).toNat)
  case atStart => exact ⟨0, Nat.zero_le _, rfl, by simpa [mixL] using HH.out, HH2.out, HBB.out⟩
  case round =>
    obtain ⟨i, hi, rfl, hh, hz, hbl⟩ := hrel
    by_cases hlt : i < ys.length
    · have hx : ys[i]? = some ys[i] := List.getElem?_eq_getElem hlt
      generalize ys[i] = x at hx
      have c1 := hh.cell (is_at (mixL_at (coil := coil) hx))
      have f1 := hh.frozen
      have hst := hh.set (i := i) (by rw [is_len, mixL_len _ _ _ hi]; exact hlt) (.int .i64 (x % coil + 1))
      rw [is_set, mixL_set hx] at hst
      have HC := Lib.hid (HFD.out x wr)
      have HST := Lib.hid hst
      have hz2 := hz.setOther (a := ⟨g, i, none⟩) hg12 (.int .i64 (x % coil + 1))
      have hb2 := below_set hbl hg (i := i) (.int .i64 (x % coil + 1))
      have hiL := Lib.hid (show i + 1 ≤ ys.length from hlt)
      have hMS := Lib.hid (show ys.length - (i + 1) < ys.length - i by omega)
      have b1 : i < 100 := by omega
      obtain ⟨n1, n2⟩ := i_next (i := i) b1
      generalize x % (coil : Int) = xm at *
      clear hst
      go_wp2_with (fail)
      refine (HC.out).mono ?_
      rintro e w3 ⟨rfl, rfl⟩
      go_wp2
      go_roundw
      case rel => exact ⟨i + 1, hiL.out, by go_num, HST.out, hz2, hb2⟩
      case measure =>
        have hm := hMS.out
        clear n1 n2
        simp [intOf]
        omega
    · have hil : i = ys.length := by omega
      have hmx : mixL (coil : Int) ys i = P := by
        rw [← HP.out]
        unfold mixL
        rw [hil, List.drop_length, List.append_nil, List.take_of_length_le (by simp [foldL])]
      rw [hmx] at hh
      have hv : Ints wr (some ⟨g, 0, none⟩) P := hh.vals
      subst hil
      rcases Nat.eq_zero_or_pos ys.length with hz0 | hpos
      · have hP0 : P = [] := List.eq_nil_of_length_eq_zero (by rw [HSL.out]; exact hz0)
        subst hP0
        have hco3 := coils_zero (some ⟨g, 0, none⟩) cap coil wr hv hcc
        have hflw := fun w' (h : Ints w' (some ⟨g, 0, none⟩) []) => HFL.out (some ⟨g, 0, none⟩) cap w' h
        rw [floor_nil] at hflw
        have hr1 := fun w' (h : Ints w' (some ⟨g, 0, none⟩) []) => HRC.out (some ⟨g, 0, none⟩) none cap 0 0 [] w' h Vals.nil rfl
        rw [show cutF (coil : Int) (fun _ => 0) 0 [] [] = 0 from rfl] at hr1
        have hr2 := fun w' (h : Ints w' (some ⟨g, 0, none⟩) []) (h2 : Ints w' (some ⟨g2, 0, none⟩) zs) => HRC.out (some ⟨g, 0, none⟩) (some ⟨g2, 0, none⟩) cap cap2 zs.length zs w' h h2 rfl
        have hnv := cut_nil coil zs
        generalize cutF coil (fun _ => 0) 0 [] zs = nv at *
        clear HRC HFL HFN HOK
        rw [hz0] at hflw hr1 hr2 ⊢
        have HCO := Lib.hid hco3
        have HFW := Lib.hid hflw
        have HR1 := Lib.hid hr1
        have HR2 := Lib.hid hr2
        have HNV := Lib.hid hnv
        clear hco3 hflw hr1 hr2 hmx hnv hz0
        go_wp2_with (fail)
        refine (HCO.out).mono ?_
        rintro e w3 ⟨rfl, rfl⟩
        go_wp2_with (fail)
        refine (HFW.out _ hv).mono ?_
        rintro e w4 ⟨rfl, rfl⟩
        go_wp2_with (fail)
        refine (HR1.out _ hv).mono ?_
        rintro e w4 ⟨rfl, hb4⟩
        have hv4 := hv.keep hb4
        have hz4 := hz.keep hb4
        have hbl4 := below_on hbl hbl.size hb4
        go_wp2_with (fail)
        refine (HLI.out _).mono ?_
        rintro e w5 ⟨rfl, hb5⟩
        have hv5 := hv4.keep hb5
        have hz5 := hz4.keep hb5
        have hbl5 := below_on hbl4 hbl4.size hb5
        have C2 := Lib.hid (HR2.out w5 hv5 hz5.vals)
        clear hv hz hbl hv4 hz4 hbl4 hb4 hb5
        go_wp2_with (fail)
        refine (C2.out).mono ?_
        rintro e w6 ⟨rfl, hb6⟩
        have hbl6 := below_on hbl5 hbl5.size hb6
        clear hz5 hbl5 hb6 hv5
        rcases HNV.out with rfl | rfl
        · go_wp2
          go_loopw [16] (fun t wr => t = .int .i64 0 ∧ Below w.heap.size w wr) (fun _ _ => 0)
          case atStart => exact ⟨rfl, hbl6⟩
          case round =>
            clear hbl6
            obtain ⟨rfl, hbl⟩ := hrel
            go_wp2
            go_ret
            exact ⟨rfl, hbl⟩
        · go_wp2
          go_ret
          exact ⟨rfl, hbl6⟩
      · obtain ⟨K, ks, hF⟩ := HFN.out (by rw [HSL.out]; exact hpos)
        obtain ⟨k1, k2, k3, k4, k5, k6⟩ := hF
        rw [HSL.out] at k1 k2 k3
        have hok := HOK.out
        have hbest := k6 zs
        have hco3 := k3 (some ⟨g, 0, none⟩) cap wr hv hcap
        have hflw := fun w' (h : Ints w' (some ⟨g, 0, none⟩) P) => HFL.out (some ⟨g, 0, none⟩) cap w' h
        have hr1 := fun gO w' (h : Ints w' (some ⟨g, 0, none⟩) P) (h2 : Ints w' (some ⟨gO, 0, none⟩) (nums ks)) => HRC.out (some ⟨g, 0, none⟩) (some ⟨gO, 0, none⟩) cap ys.length ys.length (nums ks) w' h h2 (by simp [nums]; exact k2.symm)
        rw [k4] at hr1
        have hr2 := fun w' (h : Ints w' (some ⟨g, 0, none⟩) P) (h2 : Ints w' (some ⟨g2, 0, none⟩) zs) => HRC.out (some ⟨g, 0, none⟩) (some ⟨g2, 0, none⟩) cap cap2 zs.length zs w' h h2 rfl
        unfold NoBetter at hbest
        rw [HSL.out] at hbest
        generalize cutF coil (fun _ => 0) 0 P zs = nv at *
        generalize floorF P coil = fl at *
        obtain ⟨o1, o2, _⟩ := hok
        have d1 := lt_f (Int.not_lt.2 o1)
        have d2 := lt_f (Int.not_lt.2 k5)
        have d3 := le_t k5
        have d4 := le_t o1
        have kI : ¬ (ys.length : Int) < (K : Int) := by omega
        have d5 := lt_f kI
        have kN : ¬ ys.length < K := by omega
        have HCO := Lib.hid hco3
        have HFW := Lib.hid hflw
        have HR1 := Lib.hid hr1
        have HR2 := Lib.hid hr2
        have HBE := Lib.hid hbest
        have HK2 := Lib.hid k2
        clear hco3 hflw hr1 hr2 hbest k2 k3 k4 k6 hmx
        go_wp2_with (fail)
        refine (HCO.out).mono ?_
        rintro e w3 ⟨gO, rfl, hgO, hbO, hb3⟩
        have hv3 := hv.keep hb3
        have hz3 := hz.keep hb3
        have hbl3 := below_on hbl hbl.size hb3
        go_wp2_with (fail)
        refine (HFW.out _ hv3).mono ?_
        rintro e w4 ⟨rfl, rfl⟩
        have C1 := Lib.hid (HR1.out gO w3 hv3 hbO.vals0)
        go_wp2_with (fail)
        refine (C1.out).mono ?_
        rintro e w4 ⟨rfl, hb4⟩
        have hv4 := hv3.keep hb4
        have hz4 := hz3.keep hb4
        have hbO4 := hbO.keep hb4
        have hbl4 := below_on hbl3 hbl3.size hb4
        go_wp2_with (fail)
        refine (HLI.out _).mono ?_
        rintro e w5 ⟨rfl, hb5⟩
        have hv5 := hv4.keep hb5
        have hz5 := hz4.keep hb5
        have hbO5 := hbO4.keep hb5
        have hbl5 := below_on hbl4 hbl4.size hb5
        have C2 := Lib.hid (HR2.out w5 hv5 hz5.vals)
        clear hv hz hbl hv3 hz3 hbO hbl3 hv4 hz4 hbO4 hbl4 hb3 hb4 hb5
        go_wp2_with (fail)
        refine (C2.out).mono ?_
        rintro e w6 ⟨rfl, hb6⟩
        have hz6 := hz5.keep hb6
        have hbO6 := hbO5.keep hb6
        have hbl6 := below_on hbl5 hbl5.size hb6
        clear hz5 hbO5 hbl5 hb6 hv5
        rcases HBE.out with hn | ⟨hn, hzl, hnb⟩
        · have d6 := lt_t hn
          go_wp2
          go_ret
          exact ⟨rfl, hbl6⟩
        · have hn0 : ¬ nv < 0 := by omega
          have d6 := lt_f hn0
          have d7 := lt_f (Int.not_lt.2 hn)
          by_cases hnK : nv = (K : Int)
          · have HNB := Lib.hid (hnb hnK)
            subst hnK
            clear hnb d7 hn hn0 d6
            go_wp2
            go_loopw [16] (fun t wr => ∃ (i : Nat), i ≤ ys.length ∧ t = .int .i64 (i : Int) ∧ Hid (∀ j, j < i → zs.getD j 0 = (ks.getD j 0 : Nat)) ∧ Blk 3 wr gO (is (nums ks)) ∧ Hd 3 wr g2 cap2 (is zs) ∧ Below w.heap.size w wr) (fun t _ => ys.length - (intOf t).toNat)
            case atStart => exact ⟨0, Nat.zero_le _, rfl, Lib.hid (fun j hj => absurd hj (by omega)), hbO6, hz6, hbl6⟩
            case round =>
              clear hbO6 hz6 hbl6
              obtain ⟨i, hi, rfl, HE, hbO, hz, hbl⟩ := hrel
              by_cases hlt : i < ys.length
              · have hik : i < ks.length := by have := HK2.out; omega
                have hiz : i < zs.length := by have := HSL.out; omega
                obtain ⟨q, hq⟩ : ∃ q, ks[i]? = some q := ⟨ks[i], List.getElem?_eq_getElem hik⟩
                obtain ⟨z, hzq⟩ : ∃ z, zs[i]? = some z := ⟨zs[i], List.getElem?_eq_getElem hiz⟩
                have hqn : (nums ks)[i]? = some (q : Int) := by simp [nums, hq]
                have cO := (hbO.cell i).trans (is_at hqn)
                have cZ := hz.cell (is_at hzq)
                have gq : ks.getD i 0 = q := by rw [List.getD_eq_getElem?_getD, hq]; rfl
                have gz : zs.getD i 0 = z := by rw [List.getD_eq_getElem?_getD, hzq]; rfl
                have hle := HNB.out i hlt HE.out
                rw [gq, gz] at hle
                have hiL := Lib.hid (show i + 1 ≤ ys.length from hlt)
                have hMS := Lib.hid (show ys.length - (i + 1) < ys.length - i by omega)
                have b1 : i < 100 := by omega
                by_cases hzz : z = (q : Int)
                · have HE2 : Hid (∀ j, j < i + 1 → zs.getD j 0 = (ks.getD j 0 : Nat)) := Lib.hid (fun j hj => by
                    by_cases e : j = i
                    · subst e; rw [gq, gz]; exact hzz
                    · exact HE.out j (by omega))
                  subst hzz
                  obtain ⟨n1, n2⟩ := i_next (i := i) b1
                  clear gq gz hq hzq hqn hle
                  go_wp2_with (fail)
                  go_quiet (fail)
                  go_wp2
                  go_roundw
                  case rel => exact ⟨i + 1, hiL.out, by go_num, HE2, hbO.drewN _, hz.drewN _, below_drewN hbl _⟩
                  case measure =>
                    have hm := hMS.out
                    clear n1 n2
                    simp [intOf]
                    omega
                · have d6 : ((q : Int) != z) = true := by simp; exact fun e => hzz e.symm
                  have d7 := lt_t (show (q : Int) < z by omega)
                  have d8 : ¬ (q : Int) = z := fun e => hzz e.symm
                  clear gq gz hq hzq hqn hle hzz
                  go_wp2_with (fail)
                  go_quiet (fail)
                  go_wp2_with (fail)
                  go_quiet (fail)
                  go_wp2
                  go_ret
                  exact ⟨rfl, below_drewN (below_drewN hbl _) _⟩
              · have hil : i = ys.length := by omega
                subst hil
                go_wp2
                go_ret
                exact ⟨rfl, hbl⟩
          · have d8 : (nv == (K : Int)) = false := by simpa using hnK
            clear hnb
            go_wp2
            go_ret
            exact ⟨rfl, hbl6⟩
end Go.Proofs.Ythgekjkgfccnaaa
