/- Part of the proof of WireLongs: CoilF, Place, AddP, Last, CanT, ChkPc, Coils, WLiv, WFold, WLaw1, WLaw2, WRef. -/
import Derived.Test.YthgekjkgfccnaaaPartB
import Derived.IntWalk
import Derived.Test.YthgekjkgfccnaaaPartF
import Derived.StillTailTactics
import Derived.Test.YthgekjkgfccnaaaPartC
import Derived.Test.YthgekjkgfccnaaaPartD
/- Plain: how the coils are found (lists and numbers only). -/
namespace Go.Proofs.Ythgekjkgfccnaaa

/-- A piece goes into the first coil from there on that has room. -/
def fitF (piece : Int) : List Int → Nat → Int → Nat × Int
  | [], c, u => (c, u + piece)
  | r :: rs, c, u => if r < u + piece then fitF piece rs (c + 1) 0 else (c, u + piece)
def addF (rooms : List Int) (p : Nat × Int) (piece : Int) : Nat × Int := fitF piece (rooms.drop p.1) p.1 p.2
def befF (p q : Nat × Int) : Bool := decide (p.1 < q.1) || (decide (p.1 = q.1) && decide (p.2 < q.2))
def stepF (pieces rooms : List Int) (set : Nat) (t : List (Nat × Int)) (i : Nat) : List (Nat × Int) :=
  if set ||| 1 <<< i = set then t else
    if befF (addF rooms (t.getD set (0, 0)) (pieces.getD i 0)) (t.getD (set ||| 1 <<< i) (0, 0)) then t.set (set ||| 1 <<< i) (addF rooms (t.getD set (0, 0)) (pieces.getD i 0)) else t
def innF (pieces rooms : List Int) (set : Nat) (t : List (Nat × Int)) (k : Nat) : List (Nat × Int) := (List.range k).foldl (stepF pieces rooms set) t
def outF (pieces rooms : List Int) (t : List (Nat × Int)) (k : Nat) : List (Nat × Int) := (List.range k).foldl (fun t set => innF pieces rooms set t pieces.length) t
def tabF (pieces rooms : List Int) : List (Nat × Int) := (List.replicate (2 ^ pieces.length) (rooms.length, 0)).set 0 (0, 0)
def lastF (pieces rooms : List Int) : Nat := ((outF pieces rooms (tabF pieces rooms) (2 ^ pieces.length)).getD (2 ^ pieces.length - 1) (0, 0)).1
def canF (k : Nat) (piece : Int) (others rooms : List Int) : Bool := decide (piece ≤ rooms.getD k 0) && decide (lastF others (rooms.set k (rooms.getD k 0 - piece)) < rooms.length)
/-- The numbers that the search finds, piece by piece. -/
def Greedy : List Int → List Int → List Nat → Prop
  | [], _, [] => True
  | p :: ps, rooms, k :: ks => (k < rooms.length ∧ canF k p ps rooms = true ∧ ∀ j, j < k → canF j p ps rooms = false) ∧ Greedy ps (rooms.set k (rooms.getD k 0 - p)) ks
  | _, _, _ => False
def greedyB : List Int → List Int → List Nat → Bool
  | [], _, [] => true
  | p :: ps, rooms, k :: ks => (decide (k < rooms.length) && (canF k p ps rooms && (List.range k).all fun j => !canF j p ps rooms)) && greedyB ps (rooms.set k (rooms.getD k 0 - p)) ks
  | _, _, _ => false
theorem greedy_of : ∀ {ps rooms : List Int} {ks : List Nat}, greedyB ps rooms ks = true → Greedy ps rooms ks
  | [], _, [], _ => trivial
  | [], _, _ :: _, h => by simp [greedyB] at h
  | _ :: _, _, [], h => by simp [greedyB] at h
  | p :: ps, rooms, k :: ks, h => by
    simp only [greedyB, Bool.and_eq_true, decide_eq_true_eq, List.all_eq_true, List.mem_range, Bool.not_eq_true'] at h
    obtain ⟨⟨h1, h2, h3⟩, h4⟩ := h
    exact ⟨⟨h1, h2, h3⟩, greedy_of h4⟩

theorem innF_zero (pieces rooms : List Int) (set : Nat) (t : List (Nat × Int)) : innF pieces rooms set t 0 = t := rfl
theorem innF_succ (pieces rooms : List Int) (set : Nat) (t : List (Nat × Int)) (k : Nat) : innF pieces rooms set t (k + 1) = stepF pieces rooms set (innF pieces rooms set t k) k := by
  simp [innF, List.range_succ]
theorem outF_zero (pieces rooms : List Int) (t : List (Nat × Int)) : outF pieces rooms t 0 = t := rfl
theorem outF_succ (pieces rooms : List Int) (t : List (Nat × Int)) (k : Nat) : outF pieces rooms t (k + 1) = innF pieces rooms k (outF pieces rooms t k) pieces.length := by
  simp [outF, List.range_succ]

/-- Places that are in range. -/
structure PlacesOk (n K : Nat) (t : List (Nat × Int)) : Prop where
  len : t.length = n
  ok : ∀ e ∈ t, e.1 ≤ K ∧ 0 ≤ e.2 ∧ e.2 ≤ 1000000000
def RoomsOk (rooms : List Int) : Prop := ∀ r ∈ rooms, 0 ≤ r ∧ r ≤ 1000000000
def PiecesOk (pieces : List Int) : Prop := ∀ p ∈ pieces, 1 ≤ p ∧ p ≤ 1000000000

theorem PlacesOk.getD {n len : Nat} {t : List (Nat × Int)} (h : PlacesOk n len t) (i : Nat) : (t.getD i (0, 0)).1 ≤ len ∧ 0 ≤ (t.getD i (0, 0)).2 ∧ (t.getD i (0, 0)).2 ≤ 1000000000 := by
  by_cases hi : i < t.length
  · have := h.ok t[i] (List.getElem_mem hi)
    simpa [hi] using this
  · simp [List.getElem?_eq_none (Nat.le_of_not_lt hi)]
theorem fitF_ok (piece : Int) (hp : 1 ≤ piece ∧ piece ≤ 1000000000) : ∀ (rs : List Int) (c : Nat) (u : Int), RoomsOk rs → 0 ≤ u → u ≤ 1000000000 →
    (fitF piece rs c u).1 ≤ c + rs.length ∧ c ≤ (fitF piece rs c u).1 ∧ 0 ≤ (fitF piece rs c u).2 ∧ (fitF piece rs c u).2 ≤ 2000000000 ∧ ((fitF piece rs c u).1 < c + rs.length → (fitF piece rs c u).2 ≤ 1000000000)
  | [], c, u, _, h0, h1 => by simp only [fitF, List.length_nil]; omega
  | r :: rs, c, u, hr, h0, h1 => by
    have h := hr r (by simp)
    simp only [fitF, List.length_cons]
    split
    · have := fitF_ok piece hp rs (c + 1) 0 (fun x hx => hr x (by simp [hx])) (by omega) (by omega)
      omega
    · simp only
      omega
theorem addF_ok {rooms : List Int} {p : Nat × Int} {piece : Int} (hp : 1 ≤ piece ∧ piece ≤ 1000000000) (hr : RoomsOk rooms) (h1 : p.1 ≤ rooms.length) (h2 : 0 ≤ p.2) (h3 : p.2 ≤ 1000000000) :
    (addF rooms p piece).1 ≤ rooms.length ∧ 0 ≤ (addF rooms p piece).2 ∧ (addF rooms p piece).2 ≤ 2000000000 ∧ ((addF rooms p piece).1 < rooms.length → (addF rooms p piece).2 ≤ 1000000000) := by
  have := fitF_ok piece hp (rooms.drop p.1) p.1 p.2 (fun x hx => hr x (List.mem_of_mem_drop hx)) h2 h3
  rw [List.length_drop] at this
  unfold addF
  omega
theorem stepF_ok {pieces rooms : List Int} {n set i : Nat} {t : List (Nat × Int)} (hp : PiecesOk pieces) (hr : RoomsOk rooms) (hi : i < pieces.length) (h : PlacesOk n rooms.length t) : PlacesOk n rooms.length (stepF pieces rooms set t i) := by
  unfold stepF
  split
  · exact h
  · split
    · rename_i hb
      refine ⟨by rw [List.length_set]; exact h.len, fun e he => ?_⟩
      rcases List.mem_or_eq_of_mem_set he with he | he
      · exact h.ok e he
      · subst he
        have hs := h.getD set
        have hm := h.getD (set ||| 1 <<< i)
        have hpi : 1 ≤ pieces.getD i 0 ∧ pieces.getD i 0 ≤ 1000000000 := by
          have := hp pieces[i] (List.getElem_mem hi)
          simpa [hi] using this
        have := addF_ok hpi hr hs.1 hs.2.1 hs.2.2
        simp only [befF, Bool.or_eq_true, Bool.and_eq_true, decide_eq_true_eq] at hb
        omega
    · exact h
theorem innF_ok {pieces rooms : List Int} {n set : Nat} {t : List (Nat × Int)} (hp : PiecesOk pieces) (hr : RoomsOk rooms) (h : PlacesOk n rooms.length t) : ∀ k, k ≤ pieces.length → PlacesOk n rooms.length (innF pieces rooms set t k)
  | 0, _ => h
  | k + 1, hk => by rw [innF_succ]; exact stepF_ok hp hr (by omega) (innF_ok hp hr h k (by omega))
theorem outF_ok {pieces rooms : List Int} {n : Nat} {t : List (Nat × Int)} (hp : PiecesOk pieces) (hr : RoomsOk rooms) (h : PlacesOk n rooms.length t) : ∀ k, PlacesOk n rooms.length (outF pieces rooms t k)
  | 0 => h
  | k + 1 => by rw [outF_succ]; exact innF_ok hp hr (outF_ok hp hr h k) _ (Nat.le_refl _)
theorem tabF_ok (pieces rooms : List Int) : PlacesOk (2 ^ pieces.length) rooms.length (tabF pieces rooms) := by
  refine ⟨by simp [tabF], fun e he => ?_⟩
  rcases List.mem_or_eq_of_mem_set he with he | he
  · rw [List.eq_of_mem_replicate he]; simp
  · subst he; simp
theorem lastF_le (pieces rooms : List Int) (hp : PiecesOk pieces) (hr : RoomsOk rooms) : lastF pieces rooms ≤ rooms.length := ((outF_ok hp hr (tabF_ok pieces rooms) _).getD _).1
/-- More bits are as few as the pieces. -/
theorem or_lt {set i n : Nat} (h : set < 2 ^ n) (hi : i < n) : set ||| 1 <<< i < 2 ^ n :=
  Nat.or_lt_two_pow h (by rw [Nat.one_shiftLeft]; exact Nat.pow_lt_pow_right (by omega) hi)
/-- The places as cells. -/
def flat : List (Nat × Int) → List Int
  | [] => []
  | e :: t => (e.1 : Int) :: e.2 :: flat t
theorem flat_len (t : List (Nat × Int)) : (flat t).length = 2 * t.length := by induction t with | nil => rfl | cons e t ih => simp [flat, ih]; omega
theorem flat_0 : ∀ {t : List (Nat × Int)} {i : Nat}, i < t.length → (flat t)[i * 2]? = some ((t.getD i (0, 0)).1 : Int)
  | e :: t, 0, _ => by simp [flat]
  | e :: t, i + 1, h => by
    have := flat_0 (t := t) (i := i) (by simpa using h)
    simpa [flat, show (i + 1) * 2 = i * 2 + 1 + 1 by omega] using this
theorem flat_1 : ∀ {t : List (Nat × Int)} {i : Nat}, i < t.length → (flat t)[i * 2 + 1]? = some (t.getD i (0, 0)).2
  | e :: t, 0, _ => by simp [flat]
  | e :: t, i + 1, h => by
    have := flat_1 (t := t) (i := i) (by simpa using h)
    simpa [flat, show (i + 1) * 2 + 1 = i * 2 + 1 + 1 + 1 by omega] using this
theorem flat_set : ∀ (t : List (Nat × Int)) (i : Nat) (e : Nat × Int), ((flat t).set (i * 2) (e.1 : Int)).set (i * 2 + 1) e.2 = flat (t.set i e)
  | [], _, _ => by simp [flat]
  | d :: t, 0, e => by simp [flat]
  | d :: t, i + 1, e => by
    have := flat_set t i e
    simp [flat, show (i + 1) * 2 = i * 2 + 1 + 1 by omega, this]
theorem flat_replicate (n : Nat) (e : Nat × Int) : flat (List.replicate n e) = (List.replicate n [(e.1 : Int), e.2]).flatten := by
  induction n with
  | zero => rfl
  | succ n ih => simp [List.replicate_succ, flat, ih]
theorem lives_greedy : Greedy [6, 4, 5, 5] [10, 10] [0, 0, 1, 1] := greedy_of (by decide +kernel)
theorem lives_last : lastF [6, 4, 5, 5] [10, 10, 10, 10] = 1 := by decide +kernel
end Go.Proofs.Ythgekjkgfccnaaa

namespace Go.Proofs.Ythgekjkgfccnaaa
open Go.RowKit

theorem isBefore_any (p q : Nat × Int) (w : World) : Calls Try.prog 63 #[.agg #[.int .i64 (p.1 : Int), .int .i64 p.2], .agg #[.int .i64 (q.1 : Int), .int .i64 q.2]] w fun e w' => e = .returned (.bool (befF p q)) ∧ Below w.heap.size w w' := by
  have hbA : Below w.heap.size w ((w.alloc (.cells #[.int .i64 (p.1 : Int), .int .i64 p.2] 87)).alloc (.cells #[.int .i64 (q.1 : Int), .int .i64 q.2] 87)) := ((Below.refl _ _).alloc (Nat.le_refl _) _).alloc (by simp) _
  unfold befF
  obtain ⟨a, b⟩ := p
  obtain ⟨c, d⟩ := q
  simp only at *
  by_cases h : a < c
  · have hd : decide ((a : Int) < (c : Int)) = true := by simpa using h
    have hd' : decide (a < c) = true := by simpa using h
    go_enter Try.func63, Try.ntmps63
    go_wp2
    go_ret
    exact ⟨by simp [h], hbA⟩
  · have hd : decide ((a : Int) < (c : Int)) = false := by simpa using h
    have hd' : decide (a < c) = false := by simpa using h
    by_cases k : a = c
    · subst k
      go_enter Try.func63, Try.ntmps63
      go_wp2
      go_ret
      exact ⟨by simp, hbA⟩
    · have hk : ((a : Int) == (c : Int)) = false := by simp; omega
      go_enter Try.func63, Try.ntmps63
      go_wp2
      go_ret
      exact ⟨by simp [h, k], hbA⟩
end Go.Proofs.Ythgekjkgfccnaaa

namespace Go.Proofs.Ythgekjkgfccnaaa
open Go.RowKit

theorem und87 : (Try.prog.underlying 87).map (fun d => match d with | .struct _ | .array _ _ => true | _ => false) = some true := by kernel_rfl
theorem size87 : (Try.prog.info? 87).map (·.size) = some 2 := by kernel_rfl
theorem Blk.res87 {fn : Func} {w : World} {g : Nat} {p q : Int} (h : Blk 87 w g [.int .i64 p, .int .i64 q]) {k : Nat} (hr : fn.results = #[.cell k 87]) (tmps : Array Value) (hp : tmps.getD k undef = .pointer (some ⟨g, 0, none⟩)) :
    (results fn tmps).run Try.prog w = .ok (.agg #[.int .i64 p, .int .i64 q]) w := by
  obtain ⟨d, hd, hm⟩ := Option.map_eq_some_iff.1 und87
  cases d <;> first | exact results_cell_row hr tmps w g 87 _ (0, 0) _ hp h hd rfl size87 | exact absurd hm (by simp)

def PlPost (w : World) (p : Nat × Int) (e : Ending) (w' : World) : Prop := e = .returned (.agg #[.int .i64 (p.1 : Int), .int .i64 p.2]) ∧ Below w.heap.size w w'
set_option maxHeartbeats 1000000 in
set_option maxRecDepth 100000 in
theorem add_any (c : Nat) (u piece : Int) (A : Option Addr) (cp : Nat) (rooms : List Int) (w : World) (hA : Ints w A rooms) (hp : 1 ≤ piece ∧ piece ≤ 1000000000) (_hr : RoomsOk rooms) (h1 : c ≤ rooms.length) (h2 : 0 ≤ u) (h3 : u ≤ 1000000000) (hl : rooms.length ≤ 1000000) :
    Calls Try.prog 62 #[.agg #[.int .i64 (c : Int), .int .i64 u], .int .i64 piece, .slice A rooms.length cp] w (PlPost w (addF rooms (c, u) piece)) := by
  have hb0 : Blk 87 ((w.alloc (.cells #[.int .i64 (c : Int), .int .i64 u] 87)).alloc (.cells #[.int .i64 0, .int .i64 0] 87)) w.heap.size [.int .i64 (c : Int), .int .i64 u] := (Blk.new w 87 [_, _]).alloc _
  have hb1 : Blk 87 ((w.alloc (.cells #[.int .i64 (c : Int), .int .i64 u] 87)).alloc (.cells #[.int .i64 0, .int .i64 0] 87)) (w.heap.size + 1) [.int .i64 0, .int .i64 0] := by
    have := Blk.new (w.alloc (.cells #[.int .i64 (c : Int), .int .i64 u] 87)) 87 [.int .i64 0, .int .i64 0]
    simpa using this
  have hbA : Below w.heap.size w ((w.alloc (.cells #[.int .i64 (c : Int), .int .i64 u] 87)).alloc (.cells #[.int .i64 0, .int .i64 0] 87)) := ((Below.refl _ _).alloc (Nat.le_refl _) _).alloc (by simp) _
  have hF : fitF piece (rooms.drop c) c u = addF rooms (c, u) piece := rfl
  generalize addF rooms (c, u) piece = res at *
  have HF := Lib.hid hF
  clear hF
  go_enter Try.func62, Try.ntmps62
  go_wp2
  go_loopw [] (fun wr => ∃ (c' : Nat) (u' : Int), c' ≤ rooms.length ∧ 0 ≤ u' ∧ u' ≤ 1000000000 ∧ Hid (fitF piece (rooms.drop c') c' u' = res) ∧ Blk 87 wr w.heap.size [.int .i64 (c' : Int), .int .i64 u'] ∧ Blk 87 wr (w.heap.size + 1) [.int .i64 0, .int .i64 0] ∧ Below w.heap.size w wr) (fun wr => rooms.length - (cellI wr ⟨w.heap.size, 0, none⟩).toNat)
  case atStart => exact ⟨c, u, h1, h2, h3, HF, hb0, hb1, hbA⟩
  case round =>
    clear hb0 hb1 hbA HF
    obtain ⟨c', u', hc, hu, hu2, HF, k0, k1, hbl⟩ := hrel
    have e0 := k0.cell 0
    have e1 := k0.cell 1
    have z0 := k1.cell 0
    have z1 := k1.cell 1
    have f0 := k0.frozen
    have f1 := k1.frozen
    simp only [List.getElem?_cons_zero, List.getElem?_cons_succ] at e0 e1 z0 z1
    have hs : IntKind.i64.wrap (u' + piece) = u' + piece := wrapI (by omega) (by omega)
    have hs1 : IntKind.i64.wrap ((c' : Int) + 1) = (c' : Int) + 1 := wrapI (by omega) (by omega)
    by_cases hlt : c' < rooms.length
    · have hd : decide ((c' : Int) < (rooms.length : Int)) = true := by simpa using hlt
      have hdn : decide (c' < rooms.length) = true := by simpa using hlt
      obtain ⟨g, off, r, rfl, hg, hrc, hcr⟩ := Ints.at_ (hA.keep hbl) (i := c') hlt
      have hdr : rooms.drop c' = r :: rooms.drop (c' + 1) := by rw [List.drop_eq_getElem_cons hlt]; rw [List.getElem?_eq_getElem hlt] at hrc; injection hrc with hrc; rw [hrc]
      have HD := Lib.hid hdr
      have HR := Lib.hid hrc
      clear hdr hrc
      by_cases hr1 : r < u' + piece
      · have hstep : fitF piece (rooms.drop (c' + 1)) (c' + 1) 0 = res := by have := HF.out; rw [HD.out, fitF, if_pos hr1] at this; exact this
        have HS := Lib.hid hstep
        clear hstep
        go_wp2_with (fail)
        go_quiet (fail)
        go_wp2
        go_roundw
        case rel => exact ⟨c' + 1, 0, by omega, by omega, by omega, HS, (k0.drewN _).pair _ _, k1.far2 (by omega) _ _ _, below_set (below_set (below_drewN hbl _) (Nat.le_refl _) _) (Nat.le_refl _) _⟩
        case measure =>
          rw [cellI_of e0, cellI_of (((k0.drewN _).pair _ _).cell 0)]
          omega
      · have hfin : res = (c', u' + piece) := by have := HF.out; rw [HD.out, fitF, if_neg hr1] at this; exact this.symm
        have HS := Lib.hid hfin
        clear hfin
        go_wp2_with (fail)
        go_quiet (fail)
        go_wp2
        refine bodyPost_ret (Blk.res87 ((k1.drewN _).pair _ _) rfl _ rfl) rfl ⟨by rw [HS.out], below_set (below_set (below_drewN hbl _) (by omega) _) (by omega) _⟩
    · have hd : decide ((c' : Int) < (rooms.length : Int)) = false := by simpa using hlt
      have hdn : decide (c' < rooms.length) = false := by simpa using hlt
      have hfin : res = (c', u' + piece) := by
        have := HF.out
        rw [List.drop_eq_nil_of_le (by omega), fitF] at this
        exact this.symm
      have HS := Lib.hid hfin
      clear hfin
      go_wp2_with (fail)
      go_quiet (fail)
      go_wp2
      refine bodyPost_ret (Blk.res87 ((k1.drewN _).pair _ _) rfl _ rfl) rfl ⟨by rw [HS.out], below_set (below_set (below_drewN hbl _) (by omega) _) (by omega) _⟩
end Go.Proofs.Ythgekjkgfccnaaa

namespace Go.Proofs.Ythgekjkgfccnaaa
open Go.RowKit

theorem flat_is (n : Nat) (e : Nat × Int) : (List.replicate n (is [(e.1 : Int), e.2])).flatten = is (flat (List.replicate n e)) := by
  rw [flat_replicate]
  simp [is]
theorem pow_cast (n : Nat) : (2 : Int) ^ n = ((2 ^ n : Nat) : Int) := by simp
theorem shl_one (n : Nat) (h : n ≤ 40) : wrap64 ((2 : Int) ^ n) = ((2 ^ n : Nat) : Int) := by
  have : 2 ^ n ≤ 2 ^ 40 := Nat.pow_le_pow_right (by omega) h
  rw [pow_cast]
  generalize 2 ^ n = k at *
  unfold wrap64
  omega
theorem pow14 {n : Nat} (h : n ≤ 14) : 2 ^ n ≤ 16384 := Nat.pow_le_pow_right (by omega) h
theorem i64_or (a b : Nat) (ha : a < 9223372036854775808) (hb : b < 9223372036854775808) : bits .or .i64 (a : Int) (b : Int) = ((a ||| b : Nat) : Int) := by
  have hx : a ||| b < 2 ^ 63 := Nat.or_lt_two_pow (by omega) (by omega)
  have h0 : ∀ x : Nat, x < 9223372036854775808 → (BitVec.ofInt 64 (x : Int)).toNat = x := fun x h => by
    rw [BitVec.ofInt_natCast, BitVec.toNat_ofNat]; exact Nat.mod_eq_of_lt (by omega)
  show IntKind.i64.wrap ((BitVec.ofInt 64 (a : Int) ||| BitVec.ofInt 64 (b : Int)).toNat : Int) = _
  rw [BitVec.toNat_or, h0 a ha, h0 b hb, IntKind.wrap_i64]
  omega
set_option maxHeartbeats 2000000 in
set_option maxRecDepth 100000 in
theorem lastCoil_any (A A' : Option Addr) (cp cp' : Nat) (pieces rooms : List Int) (w : World) (hA : Ints w A pieces) (hA' : Ints w A' rooms) (hp : PiecesOk pieces) (hr : RoomsOk rooms) (hl : pieces.length ≤ 14) (hl' : rooms.length ≤ 1000000) :
    Calls Try.prog 44 #[.slice A pieces.length cp, .slice A' rooms.length cp'] w fun e w' => e = .returned (.int .i64 ((lastF pieces rooms : Nat) : Int)) ∧ Below w.heap.size w w' := by
  obtain ⟨N, hN⟩ : ∃ N, N = 2 ^ pieces.length := ⟨_, rfl⟩
  have hsh : wrap64 ((2 : Int) ^ pieces.length) = (N : Int) := by rw [hN]; exact shl_one _ (by omega)
  have hN1 : 1 ≤ N := by rw [hN]; exact Nat.one_le_two_pow
  have hN2 : N ≤ 16384 := by rw [hN]; exact pow14 hl
  have hx : Ints (w.alloc (Obj.cells #[.int .i64 (rooms.length : Int), .int .i64 0] 87)) (some ⟨w.heap.size, 0, none⟩) [(rooms.length : Int), 0] := (Blk.new w 87 [_, _]).vals0
  have hrep := repeatP_any w.heap.size 0 1 N rooms.length 0 _ hx hN1 (by omega)
  have hbA := below_new w (Obj.cells #[.int .i64 (rooms.length : Int), .int .i64 0] 87)
  have HN := Lib.hid hN
  have HR := Lib.hid hrep
  have HA := Lib.hid hA
  have HA' := Lib.hid hA'
  clear hN hrep hx hA hA'
  go_enter Try.func44, Try.ntmps44
  go_wp2_with (fail)
  refine (HR.out).mono ?_
  rintro e w1 ⟨g, rfl, hg, hb1, hbl1⟩
  have hb1' : Blk 87 w1 g (is (flat (List.replicate N (rooms.length, 0)))) := by rw [← flat_is]; exact hb1
  have hbB := below_on hbA hbA.size hbl1
  have c0 : w1.cell? ⟨g, 0, none⟩ = some (.int .i64 (rooms.length : Int)) := by rw [hb1'.cell 0]; exact is_at ((flat_0 (t := List.replicate N (rooms.length, 0)) (i := 0) (by simp; omega)).trans (by simp [List.getD, show 0 < N by omega]))
  have c1 : w1.cell? ⟨g, 1, none⟩ = some (.int .i64 0) := by rw [hb1'.cell 1]; exact is_at ((flat_1 (t := List.replicate N (rooms.length, 0)) (i := 0) (by simp; omega)).trans (by simp [List.getD, show 0 < N by omega]))
  have fz := hb1'.frozen
  have HB1 := Lib.hid hb1'
  clear hb1 hb1'
  go_wp2_with (fail)
  clear c0 c1 fz hbA
  have hgw : w.heap.size ≤ g := by have := hg; simp at this; omega
  have htab : Blk 87 ((w1.setCell ⟨g, 0, none⟩ (.int .i64 0)).setCell ⟨g, 1, none⟩ (.int .i64 0)) g (is (flat (tabF pieces rooms))) := by
    have h1 := (HB1.out.set 0 (.int .i64 0)).set 1 (.int .i64 0)
    rw [is_set, is_set] at h1
    have h2 := flat_set (List.replicate N (rooms.length, 0)) 0 (0, 0)
    unfold tabF
    rw [← HN.out, ← h2]
    exact h1
  have hbC : Below w.heap.size w ((w1.setCell ⟨g, 0, none⟩ (.int .i64 0)).setCell ⟨g, 1, none⟩ (.int .i64 0)) := below_set (below_set hbB hgw _) hgw _
  rw [hsh]
  go_loopw [6, 7, 8, 9, 10, 25, 28, 29, 30] (fun _ _ _ _ _ t _ _ _ wr => ∃ k : Nat, k ≤ N ∧ t = .int .i64 (k : Int) ∧ Blk 87 wr g (is (flat (outF pieces rooms (tabF pieces rooms) k))) ∧ Below w.heap.size w wr) (fun _ _ _ _ _ t _ _ _ _ => N - (intOf t).toNat)
  case atStart => exact ⟨0, Nat.zero_le _, rfl, htab, hbC⟩
  case round =>
    clear htab hbC hbB HB1 hbl1 HR
    obtain ⟨k, hk, rfl, hb, hbl⟩ := hrel
    by_cases hlt : k < N
    · have hs : IntKind.i64.wrap ((k : Int) + 1) = (k : Int) + 1 := wrapI (by omega) (by omega)
      go_wp2_with (fail)
      obtain ⟨wo, rfl⟩ : ∃ wo : World, wo = wr := ⟨_, rfl⟩
      go_loopw [7, 8, 9, 10, 30] (fun _ _ _ _ t wr => ∃ j : Nat, j ≤ pieces.length ∧ t = .int .i64 (j : Int) ∧ Blk 87 wr g (is (flat (innF pieces rooms k (outF pieces rooms (tabF pieces rooms) k) j))) ∧ Below w.heap.size w wr) (fun _ _ _ _ t _ => pieces.length - (intOf t).toNat)
      case atStart => exact ⟨0, Nat.zero_le _, rfl, hb, hbl⟩
      case round =>
        clear hb hbl
        obtain ⟨j, hj, rfl, hb, hbl⟩ := hrel
        have hok : PlacesOk N rooms.length (innF pieces rooms k (outF pieces rooms (tabF pieces rooms) k) j) := by
          rw [HN.out]; exact innF_ok hp hr (outF_ok hp hr (tabF_ok pieces rooms) k) j hj
        by_cases hjl : j < pieces.length
        · have hs2 : IntKind.i64.wrap ((j : Int) + 1) = (j : Int) + 1 := wrapI (by omega) (by omega)
          have hsj : wrap64 ((2 : Int) ^ j) = ((2 ^ j : Nat) : Int) := shl_one j (by omega)
          obtain ⟨g1, o1, p, rfl, hg1, hpj, hcp⟩ := Ints.at_ (HA.out.keep hbl) (i := j) hjl
          have hpp := hp p (List.mem_of_getElem? hpj)
          have HP := Lib.hid hpj
          clear hpj
          obtain ⟨M, hM⟩ : ∃ M, M = k ||| 1 <<< j := ⟨_, rfl⟩
          have hMN : M < N := by rw [hM, HN.out]; exact or_lt (by rw [← HN.out]; exact hlt) hjl
          have hor : bits .or .i64 (k : Int) ((2 : Int) ^ j) = (M : Int) := by
            rw [hM, Nat.one_shiftLeft, pow_cast]
            have := pow14 (n := j) (by omega)
            exact i64_or k (2 ^ j) (by omega) (by omega)
          obtain ⟨T, hT⟩ : ∃ T, innF pieces rooms k (outF pieces rooms (tabF pieces rooms) k) j = T := ⟨_, rfl⟩
          have hsucc : innF pieces rooms k (outF pieces rooms (tabF pieces rooms) k) (j + 1) = stepF pieces rooms k T j := by rw [innF_succ, hT]
          rw [hT] at hb hok
          have hpg : pieces.getD j 0 = p := by rw [List.getD_eq_getElem?_getD, HP.out]; rfl
          have HM := Lib.hid hM
          have HS := Lib.hid hsucc
          have HG := Lib.hid hpg
          clear hM hT hsucc hpg
          by_cases hmk : M = k
          · have hstep : stepF pieces rooms k T j = T := by unfold stepF; rw [if_pos (by rw [← HM.out]; exact hmk)]
            rw [hmk] at hor
            have HE := Lib.hid hstep
            clear hstep hmk
            go_wp2
            go_roundw
            case rel => exact ⟨j + 1, by omega, by go_num, by rw [HS.out, HE.out]; exact hb, hbl⟩
            case measure => simp [intOf]; omega
          · have hne : ((M : Int) == (k : Int)) = false := by simp; omega
            have hlenT : T.length = N := hok.len
            have k0 := (hb.cell (k * 2)).trans (is_at (flat_0 (t := T) (i := k) (by omega)))
            have k1 := (hb.cell (k * 2 + 1)).trans (is_at (flat_1 (t := T) (i := k) (by omega)))
            have m0 := (hb.cell (M * 2)).trans (is_at (flat_0 (t := T) (i := M) (by omega)))
            have m1 := (hb.cell (M * 2 + 1)).trans (is_at (flat_1 (t := T) (i := M) (by omega)))
            have hko := hok.getD k
            obtain ⟨P1, hP1⟩ : ∃ P1, T.getD k (0, 0) = P1 := ⟨_, rfl⟩
            obtain ⟨P2, hP2⟩ : ∃ P2, T.getD M (0, 0) = P2 := ⟨_, rfl⟩
            rw [hP1] at k0 k1 hko
            rw [hP2] at m0 m1
            have hadd := add_any P1.1 P1.2 p A' cp' rooms wr (HA'.out.keep hbl) hpp hr hko.1 hko.2.1 hko.2.2 hl'
            have H1 := Lib.hid hP1
            have H2 := Lib.hid hP2
            have HAD := Lib.hid hadd
            have HL := Lib.hid hlenT
            clear hP1 hP2 hadd hlenT
            go_wp2_with (fail)
            refine (HAD.out).mono ?_
            rintro e w2 ⟨rfl, hb2⟩
            have hbw := below_on hbl hbl.size hb2
            have t1 := (hb.keep hb2).alloc (Obj.cells #[.int .i64 ((addF rooms (P1.1, P1.2) p).1 : Int), .int .i64 (addF rooms (P1.1, P1.2) p).2] 87)
            have t0 : Blk 87 (w2.alloc (Obj.cells #[.int .i64 ((addF rooms (P1.1, P1.2) p).1 : Int), .int .i64 (addF rooms (P1.1, P1.2) p).2] 87)) w2.heap.size [.int .i64 ((addF rooms (P1.1, P1.2) p).1 : Int), .int .i64 (addF rooms (P1.1, P1.2) p).2] := Blk.new w2 87 [_, _]
            have hbw2 := hbw.alloc hbw.size (Obj.cells #[.int .i64 ((addF rooms (P1.1, P1.2) p).1 : Int), .int .i64 (addF rooms (P1.1, P1.2) p).2] 87)
            have hgl : g < w2.heap.size := (hb.keep hb2).lt
            have hstep : stepF pieces rooms k T j = if befF (addF rooms (P1.1, P1.2) p) P2 then T.set M (addF rooms (P1.1, P1.2) p) else T := by
              unfold stepF
              rw [← HM.out, if_neg hmk, HG.out, H1.out, H2.out]
            have n0 := (t1.drew.cell (M * 2)).trans (is_at ((flat_0 (t := T) (i := M) (by have := HL.out; omega)).trans (by rw [H2.out])))
            have n1 := (t1.drew.cell (M * 2 + 1)).trans (is_at ((flat_1 (t := T) (i := M) (by have := HL.out; omega)).trans (by rw [H2.out])))
            have q0 := t0.drew.cell 0
            have q1 := t0.drew.cell 1
            simp only [List.getElem?_cons_zero, List.getElem?_cons_succ] at q0 q1
            generalize addF rooms (P1.1, P1.2) p = R at *
            have HT := Lib.hid hstep
            have T1 := Lib.hid t1
            have T0 := Lib.hid t0
            clear hstep t1 t0 k0 k1 m0 m1
            go_wp2_with (fail)
            generalize hW : w2.alloc (Obj.cells #[.int .i64 (R.1 : Int), .int .i64 R.2] 87) = wA at *
            have hsz : w2.heap.size < wA.heap.size := by rw [← hW]; simp
            clear hW
            go_still_tail 5, (by kernel_rfl)
            change wpList _ _ _ _ _ wA.drew
            by_cases hbf : befF R P2 = true
            · have hcl := isBefore_any R P2 wA.drew
              rw [hbf] at hcl
              have HC := Lib.hid hcl
              clear hcl
              go_wp2_with (fail)
              refine (HC.out).mono ?_
              rintro e w3 ⟨rfl, hb3⟩
              have hbw3 := below_on hbw2.drew hbw2.drew.size hb3
              have u1 := T1.out.drew.keep hb3
              have u0 := T0.out.drew.keep hb3
              have v0 := u0.cell 0
              have v1 := u0.cell 1
              simp only [List.getElem?_cons_zero, List.getElem?_cons_succ] at v0 v1
              have x0 := (u1.cell (M * 2)).trans (is_at ((flat_0 (t := T) (i := M) (by have := HL.out; omega)).trans (by rw [H2.out])))
              have x1 := (u1.cell (M * 2 + 1)).trans (is_at ((flat_1 (t := T) (i := M) (by have := HL.out; omega)).trans (by rw [H2.out])))
              have xf := u1.frozen
              have hnew := (u1.set (M * 2) (.int .i64 (R.1 : Int))).set (M * 2 + 1) (.int .i64 R.2)
              rw [is_set, is_set, flat_set] at hnew
              have HN2 := Lib.hid hnew
              clear hnew n0 n1 q0 q1
              go_wp2
              go_roundw
              case rel => exact ⟨j + 1, by omega, by go_num, by rw [HS.out, HT.out, hbf, if_pos rfl]; exact HN2.out, below_set (below_set hbw3 hgw _) hgw _⟩
              case measure => simp [intOf]; omega
            · have hcl := isBefore_any R P2 wA.drew
              rw [Bool.not_eq_true] at hbf
              rw [hbf] at hcl
              have HC := Lib.hid hcl
              clear hcl
              go_wp2_with (fail)
              refine (HC.out).mono ?_
              rintro e w3 ⟨rfl, hb3⟩
              have hbw3 := below_on hbw2.drew hbw2.drew.size hb3
              have u1 := T1.out.drew.keep hb3
              clear n0 n1 q0 q1
              go_wp2
              go_roundw
              case rel => exact ⟨j + 1, by omega, by go_num, by rw [HS.out, HT.out, hbf, if_neg (by simp)]; exact u1, hbw3⟩
              case measure => simp [intOf]; omega
        · obtain rfl : j = pieces.length := by omega
          go_wp2
          go_roundw
          case rel => exact ⟨k + 1, by omega, by go_num, by rw [outF_succ]; exact hb, hbl⟩
          case measure => simp [intOf]; omega
    · obtain rfl : k = N := by omega
      have hok : PlacesOk k rooms.length (outF pieces rooms (tabF pieces rooms) k) := by rw [HN.out]; exact outF_ok hp hr (tabF_ok pieces rooms) _
      have hlen := hok.len
      have c0 := (hb.cell ((k - 1) * 2)).trans (is_at (flat_0 (t := outF pieces rooms (tabF pieces rooms) k) (i := k - 1) (by omega)))
      have hlast : lastF pieces rooms = ((outF pieces rooms (tabF pieces rooms) k).getD (k - 1) (0, 0)).1 := by unfold lastF; rw [← HN.out]
      have hs : IntKind.i64.wrap ((k : Int) - 1) = ((k - 1 : Nat) : Int) := by rw [wrapI (by omega) (by omega)]; omega
      have ht : ((k : Int) - 1).toNat = k - 1 := by omega
      have hq : (1 : Int) ≤ (k : Int) := by omega
      have hq2 : (k : Int) - 1 < (k : Int) := by omega
      generalize (outF pieces rooms (tabF pieces rooms) k).getD (k - 1) (0, 0) = E at *
      have HL := Lib.hid hlen
      have HLA := Lib.hid hlast
      clear hlen hok hlast
      go_wp2
      go_ret
      exact ⟨by rw [HLA.out]; rfl, hbl⟩
end Go.Proofs.Ythgekjkgfccnaaa

namespace Go.Proofs.Ythgekjkgfccnaaa
open Go.RowKit

theorem RoomsOk.set {rooms : List Int} (h : RoomsOk rooms) {k : Nat} {x : Int} (hx : 0 ≤ x ∧ x ≤ 1000000000) : RoomsOk (rooms.set k x) := by
  intro r hr
  rcases List.mem_or_eq_of_mem_set hr with hr | hr
  · exact h r hr
  · subst hr; exact hx

set_option maxHeartbeats 1000000 in
set_option maxRecDepth 100000 in
theorem canTake_any (k : Nat) (piece : Int) (A A' : Option Addr) (cp cp' : Nat) (others rooms : List Int) (w : World) (hA : Ints w A others) (hA' : Ints w A' rooms) (hp : 1 ≤ piece ∧ piece ≤ 1000000000) (ho : PiecesOk others) (hr : RoomsOk rooms) (hk : k < rooms.length) (hl : others.length ≤ 14) (hl' : rooms.length ≤ 1000000) :
    Calls Try.prog 46 #[.int .i64 (k : Int), .int .i64 piece, .slice A others.length cp, .slice A' rooms.length cp'] w fun e w' => e = .returned (.bool (canF k piece others rooms)) ∧ Below w.heap.size w w' := by
  obtain ⟨g, off, r, rfl, hg, hrk, hc⟩ := Ints.at_ hA' hk
  have hrr := hr r (List.mem_of_getElem? hrk)
  have hcan : canF k piece others rooms = (decide (piece ≤ r) && decide (lastF others (rooms.set k (r - piece)) < rooms.length)) := by
    unfold canF
    rw [List.getD_eq_getElem?_getD, hrk]; rfl
  have HC := Lib.hid hcan
  have HR := Lib.hid hrk
  clear hcan hrk
  by_cases h : piece ≤ r
  · have hcl := clone_any ⟨g, off, none⟩ cp' rooms.length rooms w hA' rfl (by omega)
    have hro : RoomsOk (rooms.set k (r - piece)) := hr.set (by omega)
    have hs : IntKind.i64.wrap (r - piece) = r - piece := wrapI (by omega) (by omega)
    have HCL := Lib.hid hcl
    have HA := Lib.hid hA
    clear hcl hA hA'
    go_enter Try.func46, Try.ntmps46
    go_wp2_with (fail)
    refine (HCL.out).mono ?_
    rintro e w1 ⟨g1, cap, rfl, hg1, hd, hb1⟩
    have c1 := hd.cell (i := k) (is_at HR.out)
    have f1 := hd.frozen
    have hset := hd.set (i := k) (by rw [is_len]; exact hk) (.int .i64 (r - piece))
    rw [is_set] at hset
    have hv := hset.vals
    have hb2 := below_set hb1 hg1 (i := k) (.int .i64 (r - piece))
    have hla := lastCoil_any A (some ⟨g1, 0, none⟩) cp cap others (rooms.set k (r - piece)) _ (HA.out.keep hb2) hv ho hro hl (by rw [List.length_set]; exact hl')
    rw [List.length_set] at hla
    have HL := Lib.hid hla
    clear hla hv hset
    go_wp2_with (fail)
    refine (HL.out).mono ?_
    rintro e w2 ⟨rfl, hb3⟩
    go_wp2
    go_ret
    refine ⟨?_, below_on hb2 hb2.size hb3⟩
    rw [HC.out]
    simp [h]
  · have hd : decide (piece ≤ r) = false := by simpa using h
    go_enter Try.func46, Try.ntmps46
    go_wp2
    go_ret
    exact ⟨by rw [HC.out, hd]; rfl, Below.refl _ _⟩
end Go.Proofs.Ythgekjkgfccnaaa

namespace Go.Proofs.Ythgekjkgfccnaaa
open Go.RowKit

def allB (f : Int → Bool) (l : List Int) : Bool := l.all f
theorem allB_take_succ {f : Int → Bool} {l : List Int} {k : Nat} {x : Int} (h : allB f (l.take k) = true) (hx : l[k]? = some x) (hf : f x = true) : allB f (l.take (k + 1)) = true := by
  unfold allB at *
  have : l.take (k + 1) = l.take k ++ [x] := by rw [List.take_add_one, hx]; rfl
  rw [this, List.all_append, h]
  simp [hf]
theorem allB_bad {f : Int → Bool} {l : List Int} {k : Nat} {x : Int} (hx : l[k]? = some x) (hf : f x = false) : allB f l = false := by
  unfold allB
  cases h : l.all f
  · rfl
  · have := List.all_eq_true.1 h x (List.mem_of_getElem? hx)
    rw [hf] at this; cases this
theorem allB_mem {f : Int → Bool} {l : List Int} (h : allB f l = true) : ∀ x ∈ l, f x = true := List.all_eq_true.1 h
def rangeB (x : Int) : Bool := inB x 1 1000000000
def leB (c : Int) (x : Int) : Bool := decide (x ≤ c)
/-- What checkPieces returns. -/
def pcErr (l : List Int) (coil : Int) : Int := if 14 < l.length ∨ rangeB coil = false then 1 else if allB rangeB l = false then 1 else if allB (leB coil) l = false then 3 else 0

def IntEnd (w : World) (n : Int) (e : Ending) (w' : World) : Prop := e = .returned (.int .i64 n) ∧ w = w'
set_option maxHeartbeats 1000000 in
set_option maxRecDepth 100000 in
theorem checkPieces_any (A : Option Addr) (cp L : Nat) (l : List Int) (coil : Int) (w : World) (hA : Ints w A l) (hL : L = l.length) (hl : l.length ≤ 1000000) :
    Calls Try.prog 37 #[.slice A L cp, .int .i64 coil] w (IntEnd w (pcErr l coil)) := by
  by_cases h14 : 14 < L
  · have he : pcErr l coil = 1 := by unfold pcErr; rw [if_pos (.inl (by omega))]
    rw [he]
    have hd : decide (14 < (L : Int)) = true := by simp; omega
    have hd2 : decide (14 < L) = true := by simpa using h14
    clear hL he hl
    go_enter Try.func37, Try.ntmps37
    go_wp2
    go_ret
    exact ⟨rfl, rfl⟩
  · have hd : decide (14 < (L : Int)) = false := by simp; omega
    have hd2 : decide (14 < L) = false := by simpa using h14
    have hw : ∀ v, rangeB v = inB v 1 1000000000 := fun _ => rfl
    have hwi := fun (v : Int) (W : World) => (show Calls Try.prog 39 #[.int .i64 v, .int .i64 1, .int .i64 1000000000] W fun e w' => e = .returned (.bool (rangeB v)) ∧ W = w' from within_any v 1 1000000000 W)
    cases hc : rangeB coil with
    | false =>
      have he : pcErr l coil = 1 := by unfold pcErr; rw [if_pos (.inr hc)]
      rw [he]
      have hcl := hwi coil w
      rw [hc] at hcl
      have HC := Lib.hid hcl
      have HW := Lib.hid hwi
      clear hL he hl hcl hw hwi hc
      go_enter Try.func37, Try.ntmps37
      go_wp2_with (fail)
      refine (HC.out).mono ?_
      rintro e w1 ⟨rfl, rfl⟩
      go_wp2
      go_ret
      exact ⟨rfl, rfl⟩
    | true =>
      have hcl := hwi coil w
      rw [hc] at hcl
      have HC := Lib.hid hcl
      have HW := Lib.hid hwi
      have HL := Lib.hid hL
      have HCO := Lib.hid hc
      have HA := Lib.hid hA
      have HN : ¬ (14 < l.length ∨ rangeB coil = false) := by rw [hc, ← hL]; simp; omega
      have HNN := Lib.hid HN
      clear hL hcl hw hwi hc hA HN
      go_enter Try.func37, Try.ntmps37
      go_wp2_with (fail)
      refine (HC.out).mono ?_
      rintro e w1 ⟨rfl, rfl⟩
      go_wp2
      go_loop [19] (fun t => ∃ k : Nat, k ≤ L ∧ t = .int .i64 (k : Int) ∧ allB rangeB (l.take k) = true) (fun t => L - (intOf t).toNat)
      case atStart => exact ⟨0, Nat.zero_le _, rfl, rfl⟩
      case round =>
        obtain ⟨k, hk, rfl, hal⟩ := hrel
        have HAL := Lib.hid hal
        clear hal
        by_cases hlt : k < L
        · obtain ⟨g, off, x, rfl, hg, hx, hcx⟩ := Ints.at_ HA.out (i := k) (by have := HL.out; omega)
          have HX := Lib.hid hx
          clear hx
          cases hf : rangeB x with
          | false =>
            have he : pcErr l coil = 1 := by unfold pcErr; rw [if_neg HNN.out, if_pos (allB_bad HX.out hf)]
            have hcl := HW.out x w
            rw [hf] at hcl
            have HC2 := Lib.hid hcl
            have HE := Lib.hid he
            clear hcl hf he
            go_wp2_with (fail)
            refine (HC2.out).mono ?_
            rintro e w1 ⟨rfl, rfl⟩
            go_wp2
            go_ret
            exact ⟨by rw [HE.out]; rfl, rfl⟩
          | true =>
            have hcl := HW.out x w
            rw [hf] at hcl
            have HC2 := Lib.hid hcl
            have hn := allB_take_succ HAL.out HX.out hf
            have HNx := Lib.hid hn
            clear hcl hf hn
            go_wp2_with (fail)
            refine (HC2.out).mono ?_
            rintro e w1 ⟨rfl, rfl⟩
            go_wp2
            go_round
            case rel => exact ⟨k + 1, by omega, by go_num, HNx.out⟩
            case measure => simp [intOf]; omega
        · obtain rfl : k = L := by omega
          have hall : allB rangeB l = true := by have := HAL.out; rwa [HL.out, List.take_length] at this
          have HALL := Lib.hid hall
          clear hall
          go_wp2
          go_loop [29] (fun t => ∃ j : Nat, j ≤ k ∧ t = .int .i64 (j : Int) ∧ allB (leB coil) (l.take j) = true) (fun t => k - (intOf t).toNat)
          case atStart => exact ⟨0, Nat.zero_le _, rfl, rfl⟩
          case round =>
            obtain ⟨j, hj, rfl, hal⟩ := hrel
            have HAL2 := Lib.hid hal
            clear hal
            by_cases hlt : j < k
            · obtain ⟨g, off, x, rfl, hg, hx, hcx⟩ := Ints.at_ HA.out (i := j) (by have := HL.out; omega)
              have HX := Lib.hid hx
              clear hx
              by_cases hf : coil < x
              · have he : pcErr l coil = 3 := by
                  unfold pcErr
                  rw [if_neg HNN.out, if_neg (by rw [HALL.out]; simp), if_pos (allB_bad HX.out (by unfold leB; simp; omega))]
                have HE := Lib.hid he
                clear he
                go_wp2
                go_ret
                exact ⟨by rw [HE.out]; rfl, rfl⟩
              · have hn := allB_take_succ (f := leB coil) HAL2.out HX.out (by unfold leB; simp; omega)
                have HNx := Lib.hid hn
                clear hn
                go_wp2
                go_round
                case rel => exact ⟨j + 1, by omega, by go_num, HNx.out⟩
                case measure => simp [intOf]; omega
            · obtain rfl : j = k := by omega
              have hall2 : allB (leB coil) l = true := by have := HAL2.out; rwa [HL.out, List.take_length] at this
              have he : pcErr l coil = 0 := by
                unfold pcErr
                rw [if_neg HNN.out, if_neg (by rw [HALL.out]; simp), if_neg (by rw [hall2]; simp)]
              have HE := Lib.hid he
              clear he hall2
              go_wp2
              go_ret
              exact ⟨by rw [HE.out]; rfl, rfl⟩
end Go.Proofs.Ythgekjkgfccnaaa

namespace Go.Proofs.Ythgekjkgfccnaaa
open Go.RowKit

theorem rep_is (n : Nat) (x : Int) : (List.replicate n (is [x])).flatten = is (List.replicate n x) := by simp [is]
theorem Greedy.cons {l rooms : List Int} {ns : List Nat} {i : Nat} {p : Int} (h : Greedy (l.drop i) rooms (ns.drop i)) (hp : l[i]? = some p) :
    ∃ m : Nat, ns[i]? = some m ∧ m < rooms.length ∧ canF m p (l.drop (i + 1)) rooms = true ∧ (∀ j, j < m → canF j p (l.drop (i + 1)) rooms = false) ∧ Greedy (l.drop (i + 1)) (rooms.set m (rooms.getD m 0 - p)) (ns.drop (i + 1)) := by
  have hi : i < l.length := (List.getElem?_eq_some_iff.1 hp).1
  have e : l.drop i = p :: l.drop (i + 1) := by
    rw [List.drop_eq_getElem_cons hi]
    rw [List.getElem?_eq_getElem hi] at hp
    injection hp with hp
    rw [hp]
  rw [e] at h
  cases hn : ns.drop i with
  | nil => rw [hn] at h; exact absurd h (by simp [Greedy])
  | cons m t =>
    rw [hn] at h
    have hm : ns[i]? = some m := by
      have : (ns.drop i)[0]? = some m := by rw [hn]; rfl
      rwa [List.getElem?_drop, Nat.add_zero] at this
    have ht : ns.drop (i + 1) = t := by
      have : (ns.drop i).drop 1 = t := by rw [hn]; rfl
      rwa [List.drop_drop] at this
    obtain ⟨⟨h1, h2, h3⟩, h4⟩ := h
    exact ⟨m, hm, h1, h2, h3, by rw [ht]; exact h4⟩
theorem Greedy.len : ∀ {l rooms : List Int} {ns : List Nat}, Greedy l rooms ns → ns.length = l.length
  | [], _, [], _ => rfl
  | [], _, _ :: _, h => by simp [Greedy] at h
  | _ :: _, _, [], h => by simp [Greedy] at h
  | _ :: l, _, _ :: ns, h => by simp [Greedy.len h.2]
/-- Some room is left in the coil that takes a piece. -/
theorem canF_room {k : Nat} {p : Int} {o rooms : List Int} (h : canF k p o rooms = true) : p ≤ rooms.getD k 0 := by
  unfold canF at h
  simp only [Bool.and_eq_true, decide_eq_true_eq] at h
  exact h.1
def nums (ns : List Nat) : List Int := ns.map fun (x : Nat) => (x : Int)
/-- What Coils returns. -/
def CoilsPost (w : World) (ns : List Nat) (K : Nat) (e : Ending) (w' : World) : Prop :=
  ∃ g, e = .returned (.tuple #[.slice (some ⟨g, 0, none⟩) ns.length ns.length, .int .i64 (K : Int), .int .i64 0]) ∧ w.heap.size ≤ g ∧ Blk 3 w' g (is (nums ns)) ∧ Below w.heap.size w w'
/-- The numbers that are known, the one that is being raised, and zeros. -/
def part (ns : List Nat) (i j : Nat) : List Int := (nums ns).take i ++ (j : Int) :: List.replicate (ns.length - i - 1) 0
theorem part_at {ns : List Nat} {i : Nat} (h : i < ns.length) (j : Nat) : (part ns i j)[i]? = some (j : Int) := by
  unfold part
  rw [List.getElem?_append_right (by rw [List.length_take]; exact Nat.min_le_left _ _), List.length_take]
  have e : i - min i (nums ns).length = 0 := by simp [nums]; omega
  rw [e]
  rfl
theorem part_set {ns : List Nat} {i : Nat} (h : i < ns.length) (j : Nat) (x : Int) : (part ns i j).set i x = (nums ns).take i ++ x :: List.replicate (ns.length - i - 1) 0 := by
  unfold part
  have : ((nums ns).take i).length = i := by simp [nums]; omega
  rw [List.set_append_right _ _ (by omega), this]
  simp
theorem part_next {ns : List Nat} {i m : Nat} (hm : ns[i]? = some m) : part ns i m = (nums ns).take (i + 1) ++ List.replicate (ns.length - (i + 1)) 0 := by
  unfold part
  have h1 : (nums ns)[i]? = some (m : Int) := by simp [nums, hm]
  rw [List.take_add_one, h1]
  simp [show ns.length - i - 1 = ns.length - (i + 1) by omega]
theorem part_start {ns : List Nat} {i : Nat} (h : i < ns.length) : (nums ns).take i ++ List.replicate (ns.length - i) 0 = part ns i 0 := by
  unfold part
  rw [show ns.length - i = (ns.length - i - 1) + 1 by omega, List.replicate_succ]
  rfl

theorem room_left {r p : Int} (hr : 0 ≤ r ∧ r ≤ 1000000000) (hp : 1 ≤ p ∧ p ≤ 1000000000) (h : p ≤ r) : (0 ≤ r - p ∧ r - p ≤ 1000000000) ∧ IntKind.i64.wrap (r - p) = r - p :=
  ⟨by omega, wrapI (by omega) (by omega)⟩
theorem room_lt {mi n m : Nat} (h : mi < n) (e : n = m + 1) : (mi : Int) < (m : Int) + 1 := by omega
theorem wrap_succ {i I : Nat} (h : I = i + 1) (hi : i < 14) : wrap64 ((i : Int) + 1) = (I : Int) := by unfold wrap64; omega
theorem wrap_succ' {i I : Nat} (h : I = i + 1) (hi : i < 14) : IntKind.i64.wrap ((i : Int) + 1) = (I : Int) := by rw [wrapI (by omega) (by omega)]; omega
set_option maxHeartbeats 4000000 in
set_option maxRecDepth 100000 in
theorem coils_ok (A : Option Addr) (cp : Nat) (l : List Int) (ns : List Nat) (coil : Int) (m : Nat) (w : World) (hA : Ints w A l) (hcp : l.length ≤ cp) (h0 : pcErr l coil = 0) (hne : 0 < l.length) (hl : l.length ≤ 14)
    (hp : PiecesOk l) (hc : 1 ≤ coil ∧ coil ≤ 1000000000) (hK : lastF l (List.replicate l.length coil) = m) (hK2 : m < l.length) (hG : Greedy l (List.replicate (m + 1) coil) ns) :
    Calls Try.prog 26 #[.slice A l.length cp, .int .i64 coil] w (CoilsPost w ns (m + 1)) := by
  have hchk := checkPieces_any A cp l.length l coil w hA rfl (by omega)
  rw [h0] at hchk
  have hbx := below_new w (Obj.cells #[.int .i64 coil] 3)
  have hx : Ints (w.alloc (Obj.cells #[.int .i64 coil] 3)) (some ⟨w.heap.size, 0, none⟩) [coil] := (Blk.new w 3 [_]).vals0
  have hrep := repeatI_any w.heap.size 0 1 l.length coil _ hx (by omega) (by omega)
  have hnl := hG.len
  obtain ⟨gA, oA, p0, rfl, hgA, _, _⟩ := Ints.at_ hA hne
  have HCH := Lib.hid hchk
  have HRP := Lib.hid hrep
  have HA := Lib.hid hA
  have HK := Lib.hid hK
  have HG := Lib.hid hG
  have HNL := Lib.hid hnl
  have HRO : RoomsOk (List.replicate l.length coil) := fun r hr => by rw [List.eq_of_mem_replicate hr]; omega
  have HRK : RoomsOk (List.replicate (m + 1) coil) := fun r hr => by rw [List.eq_of_mem_replicate hr]; omega
  have hsL : ((l.length : Int) == 0) = false := by simp; intro h; rw [h] at hne; simp at hne
  have hm1 : IntKind.i64.wrap ((m : Int) + 1) = (m : Int) + 1 := wrapI (by omega) (by omega)
  have hmk := fun w1 => run_make_same (P := Try.prog) 30 3 (.int .i64 0) (.int .i64 0) 1 8 Try.underlying30 infoI rfl (by omega) l.length l.length (by omega) (by omega) (by omega) w1
  clear hchk hrep hx hK hG hnl hA h0
  go_enter Try.func26, Try.ntmps26
  go_wp2_with (fail)
  refine (HCH.out).mono ?_
  rintro e w0 ⟨rfl, rfl⟩
  go_wp2_with (fail)
  refine (HRP.out).mono ?_
  rintro e w1 ⟨g1, rfl, hg1, hb1, hbl1⟩
  rw [rep_is] at hb1
  have c1 := below_on hbx hbx.size hbl1
  have hla := lastCoil_any (some ⟨gA, oA, none⟩) (some ⟨g1, 0, none⟩) cp l.length l (List.replicate l.length coil) w1 (HA.out.keep c1) hb1.vals0 hp HRO hl (by simp; omega)
  rw [List.length_replicate, HK.out] at hla
  have HLA := Lib.hid hla
  clear hla hb1
  go_wp2_with (fail)
  refine (HLA.out).mono ?_
  rintro e w2 ⟨rfl, hbl2⟩
  have c2 := below_on c1 c1.size hbl2
  have hbx2 := below_new w2 (Obj.cells #[.int .i64 coil] 3)
  have c2' := below_on c2 c2.size hbx2
  have hx2 : Ints (w2.alloc (Obj.cells #[.int .i64 coil] 3)) (some ⟨w2.heap.size, 0, none⟩) [coil] := (Blk.new w2 3 [_]).vals0
  have hrep2 := repeatI_any w2.heap.size 0 1 (m + 1) coil _ hx2 (by omega) (by omega)
  rw [show ((m + 1 : Nat) : Int) = (m : Int) + 1 by push_cast; rfl] at hrep2
  have HR2 := Lib.hid hrep2
  clear hrep2 hx2 hbx hbx2
  go_wp2_with (fail)
  refine (HR2.out).mono ?_
  rintro e w3 ⟨gR, rfl, hgR, hbR, hbl3⟩
  rw [rep_is] at hbR
  have c3 := below_on c2' c2'.size hbl3
  have hgR0 : w.heap.size ≤ gR := by have := c2'.size; omega
  have hN0 : Blk 3 (w3.alloc (.cells (Array.replicate l.length (.int .i64 0)) 3)) w3.heap.size (is (List.replicate l.length 0)) := by
    have := Blk.new w3 3 (is (List.replicate l.length 0))
    have e : (is (List.replicate l.length 0)).toArray = Array.replicate l.length (.int .i64 0) := by simp [is]
    rwa [e] at this
  have hR0 := hbR.alloc (.cells (Array.replicate l.length (.int .i64 0)) 3)
  have c4 := c3.alloc c3.size (.cells (Array.replicate l.length (.int .i64 0)) 3)
  have hgRl : gR < w3.heap.size := hbR.lt
  have HN0 := Lib.hid hN0
  have HR0 := Lib.hid hR0
  clear hN0 hR0 hbR hgA
  go_wp2_with (fail)
  clear hmk
  have hgN0 : w.heap.size ≤ w3.heap.size := c3.size
  generalize hgN : w3.heap.size = gN at *
  clear hgN
  go_loopw [11, 12, 39] (fun _ _ t wr => ∃ (i : Nat) (rooms : List Int), i ≤ l.length ∧ t = .int .i64 (i : Int) ∧ Hid (Greedy (l.drop i) rooms (ns.drop i)) ∧ RoomsOk rooms ∧ Hid (rooms.length = m + 1) ∧ Blk 3 wr gR (is rooms) ∧ Blk 3 wr gN (is ((nums ns).take i ++ List.replicate (ns.length - i) 0)) ∧ Below w.heap.size w wr) (fun _ _ t _ => l.length - (intOf t).toNat)
  case atStart => exact ⟨0, _, Nat.zero_le _, rfl, HG, HRK, Lib.hid (by simp), HR0.out, by rw [HNL.out]; exact HN0.out, c4⟩
  case round =>
    obtain ⟨i, rooms, hi, rfl, HGi, hro, HRL, hbR, hbN, hbl⟩ := hrel
    by_cases hlt : i < l.length
    · obtain ⟨g', o', p, e', hg', hpi, hcp'⟩ := Ints.at_ (HA.out.keep hbl) (i := i) hlt
      injection e' with e'
      injection e' with e1 e2
      subst e1 e2
      obtain ⟨mi, hmi, hmr, hcan, hbef, hnext⟩ := Greedy.cons HGi.out hpi
      have hpp := hp p (List.mem_of_getElem? hpi)
      obtain ⟨I, hI⟩ : ∃ I, I = i + 1 := ⟨_, rfl⟩
      have hi1 := wrap_succ hI (Nat.lt_of_lt_of_le hlt hl)
      have hi2 := wrap_succ' hI (Nat.lt_of_lt_of_le hlt hl)
      have hIL2 : I ≤ l.length := by rw [hI]; exact hlt
      have hIL : (I : Int) ≤ (l.length : Int) := Int.ofNat_le.2 hIL2
      rw [← hI] at hnext hcan hbef
      have HI := Lib.hid hI
      have HLT := Lib.hid hlt
      clear hI
      have hin : i < ns.length := by rw [HNL.out]; exact hlt
      have hbN' : Blk 3 wr gN (is (part ns i 0)) := by rw [← part_start hin]; exact hbN
      have HB := Lib.hid hbef
      have HCA := Lib.hid hcan
      have HMI := Lib.hid hmi
      have HNX := Lib.hid hnext
      clear hbef hcan hmi hnext hpi hbN
      obtain ⟨A2, hA2⟩ : ∃ A2, A2 = (if cp = I then some (⟨gA, oA, none⟩ : Addr) else some ⟨gA, oA + I, none⟩) := ⟨_, rfl⟩
      have hv2 : ∀ w', Ints w' (some ⟨gA, oA, none⟩) l → Ints w' A2 (l.drop I) := by
        intro w' h
        rw [hA2]
        split
        · rename_i hcpe
          rw [List.drop_eq_nil_of_le (by omega)]
          exact Vals.nil
        · have := Vals.drop h I
          rwa [is_drop] at this
      have hgRN : gR ≠ gN := Nat.ne_of_lt hgRl
      have HV2 := Lib.hid hv2
      have HA2 := Lib.hid hA2
      have hlt2 : (l.drop I).length ≤ 14 := by rw [List.length_drop]; omega
      have hpo2 : PiecesOk (l.drop I) := fun x hx => hp x (List.mem_of_mem_drop hx)
      clear hv2 hA2
      go_wp2_with (fail)
      go_loopw [] (fun wr => ∃ j : Nat, j ≤ mi ∧ Blk 3 wr gR (is rooms) ∧ Blk 3 wr gN (is (part ns i j)) ∧ Below w.heap.size w wr) (fun wr => mi - (cellI wr ⟨gN, i, none⟩).toNat)
      case atStart => exact ⟨0, Nat.zero_le _, hbR, hbN', hbl⟩
      case round =>
        clear hbR hbN' hbl
        obtain ⟨j, hj, hbR, hbN, hbl⟩ := hrel
        have cN := (hbN.cell i).trans (is_at (part_at hin j))
        have fN := hbN.frozen
        have hmi14 : mi < 100 := by have := HRL.out; omega
        have hj1 : IntKind.i64.wrap ((j : Int) + 1) = (j : Int) + 1 := wrapI (by omega) (by omega)
        have hct := canTake_any j p A2 (some ⟨gR, 0, none⟩) (cp - I) (m + 1) (l.drop I) rooms wr.drew (HV2.out _ (HA.out.keep hbl).drew) hbR.drew.vals0 hpp hpo2 hro (by have := HRL.out; omega) hlt2 (by have := HRL.out; omega)
        rw [List.length_drop, HRL.out] at hct
        by_cases hcpe : cp = I
        · have hA2 : A2 = some ⟨gA, oA, none⟩ := by rw [HA2.out, if_pos hcpe]
          rw [hA2] at hct
          clear hA2
          subst hcpe
          rw [Nat.sub_eq_zero_of_le hcp, Nat.sub_self] at hct
          by_cases hjm : j < mi
          · rw [HB.out j hjm] at hct
            have HCT := Lib.hid hct
            clear hct
            go_wp2_with (fail)
            go_still_tail 10, (by kernel_rfl)
            change wpList _ _ _ _ _ wr.drew
            go_wp2_with (fail)
            refine (HCT.out).mono ?_
            rintro e w4 ⟨rfl, hb4⟩
            have hbN4 := hbN.drew.keep hb4
            have hbR4 := hbR.drew.keep hb4
            have hbl4 := below_on hbl.drew hbl.drew.size hb4
            have cN4 := (hbN4.cell i).trans (is_at (part_at hin j))
            have fN4 := hbN4.frozen
            have hst := hbN4.set i (.int .i64 ((j : Int) + 1))
            rw [is_set, part_set hin] at hst
            have hst2 : Blk 3 (w4.setCell ⟨gN, i, none⟩ (.int .i64 ((j : Int) + 1))) gN (is (part ns i (j + 1))) := hst
            have hm1 : cellI wr ⟨gN, i, none⟩ = (j : Int) := cellI_of cN
            have hm2 : cellI (w4.setCell ⟨gN, i, none⟩ (.int .i64 ((j : Int) + 1))) ⟨gN, i, none⟩ = ((j + 1 : Nat) : Int) := cellI_of ((hst2.cell i).trans (is_at (part_at hin (j + 1))))
            have HST := Lib.hid hst2
            have HM1 := Lib.hid hm1
            have HM2 := Lib.hid hm2
            clear hst hst2 hm1 hm2 cN fN
            go_wp2
            go_roundw
            case rel => exact ⟨j + 1, by omega, hbR4.setOther (a := ⟨gN, i, none⟩) hgRN _, HST.out, below_set hbl4 hgN0 _⟩
            case measure => rw [HM1.out, HM2.out]; omega
          · have hjm2 : j = mi := Nat.le_antisymm hj (Nat.le_of_not_lt hjm)
            rw [hjm2, HCA.out] at hct
            rw [hjm2] at hbN cN
            have HCT := Lib.hid hct
            clear hct hjm hjm2
            go_wp2_with (fail)
            go_still_tail 10, (by kernel_rfl)
            change wpList _ _ _ _ _ wr.drew
            go_wp2_with (fail)
            refine (HCT.out).mono ?_
            rintro e w4 ⟨rfl, hb4⟩
            have hbN4 := hbN.drew.keep hb4
            have hbR4 := hbR.drew.keep hb4
            have hbl4 := below_on hbl.drew hbl.drew.size hb4
            have cN4 := (hbN4.cell i).trans (is_at (part_at hin mi))
            obtain ⟨r, hr⟩ : ∃ r, rooms[mi]? = some r := ⟨rooms[mi], List.getElem?_eq_getElem hmr⟩
            have cR4 := (hbR4.cell mi).trans (is_at hr)
            have fR4 := hbR4.frozen
            have hrr := hro r (List.mem_of_getElem? hr)
            have hgd : rooms.getD mi 0 = r := by rw [List.getD_eq_getElem?_getD, hr]; rfl
            have hroom := canF_room HCA.out
            have hnx := HNX.out
            rw [hgd] at hroom hnx
            have hst := hbR4.set mi (.int .i64 (r - p))
            rw [is_set] at hst
            obtain ⟨hrn, hs5⟩ := room_left hrr hpp hroom
            have hnext := part_next HMI.out
            rw [hnext] at hbN4
            have HST := Lib.hid hst
            have HNN := Lib.hid hnx
            have HRM := Lib.hid hroom
            have HBN := Lib.hid hbN4
            have hroom2 : p ≤ r := hroom
            have hmr2 := room_lt hmr HRL.out
            clear hst hnx hroom hbN4 hr hgd hnext cN fN
            go_wp2
            go_roundw
            case rel => exact ⟨i + 1, rooms.set mi (r - p), Nat.succ_le_of_lt HLT.out, by rw [HI.out], by have := HNN.out; rw [HI.out] at this; exact this, hro.set hrn, Lib.hid (by rw [List.length_set]; exact HRL.out), HST.out, HBN.out.setOther (a := ⟨gR, mi, none⟩) (Ne.symm hgRN) _, below_set hbl4 hgR0 _⟩
            case measure => clear hi1 hi2; simp [intOf]; have h1 := HI.out; have h2 := HLT.out; omega
        · have hA2 : A2 = some ⟨gA, oA + I, none⟩ := by rw [HA2.out, if_neg hcpe]
          rw [hA2] at hct
          clear hA2
          by_cases hjm : j < mi
          · rw [HB.out j hjm] at hct
            have HCT := Lib.hid hct
            clear hct
            go_wp2_with (fail)
            go_still_tail 10, (by kernel_rfl)
            change wpList _ _ _ _ _ wr.drew
            go_wp2_with (fail)
            refine (HCT.out).mono ?_
            rintro e w4 ⟨rfl, hb4⟩
            have hbN4 := hbN.drew.keep hb4
            have hbR4 := hbR.drew.keep hb4
            have hbl4 := below_on hbl.drew hbl.drew.size hb4
            have cN4 := (hbN4.cell i).trans (is_at (part_at hin j))
            have fN4 := hbN4.frozen
            have hst := hbN4.set i (.int .i64 ((j : Int) + 1))
            rw [is_set, part_set hin] at hst
            have hst2 : Blk 3 (w4.setCell ⟨gN, i, none⟩ (.int .i64 ((j : Int) + 1))) gN (is (part ns i (j + 1))) := hst
            have hm1 : cellI wr ⟨gN, i, none⟩ = (j : Int) := cellI_of cN
            have hm2 : cellI (w4.setCell ⟨gN, i, none⟩ (.int .i64 ((j : Int) + 1))) ⟨gN, i, none⟩ = ((j + 1 : Nat) : Int) := cellI_of ((hst2.cell i).trans (is_at (part_at hin (j + 1))))
            have HST := Lib.hid hst2
            have HM1 := Lib.hid hm1
            have HM2 := Lib.hid hm2
            clear hst hst2 hm1 hm2 cN fN
            go_wp2
            go_roundw
            case rel => exact ⟨j + 1, by omega, hbR4.setOther (a := ⟨gN, i, none⟩) hgRN _, HST.out, below_set hbl4 hgN0 _⟩
            case measure => rw [HM1.out, HM2.out]; omega
          · have hjm2 : j = mi := Nat.le_antisymm hj (Nat.le_of_not_lt hjm)
            rw [hjm2, HCA.out] at hct
            rw [hjm2] at hbN cN
            have HCT := Lib.hid hct
            clear hct hjm hjm2
            go_wp2_with (fail)
            go_still_tail 10, (by kernel_rfl)
            change wpList _ _ _ _ _ wr.drew
            go_wp2_with (fail)
            refine (HCT.out).mono ?_
            rintro e w4 ⟨rfl, hb4⟩
            have hbN4 := hbN.drew.keep hb4
            have hbR4 := hbR.drew.keep hb4
            have hbl4 := below_on hbl.drew hbl.drew.size hb4
            have cN4 := (hbN4.cell i).trans (is_at (part_at hin mi))
            obtain ⟨r, hr⟩ : ∃ r, rooms[mi]? = some r := ⟨rooms[mi], List.getElem?_eq_getElem hmr⟩
            have cR4 := (hbR4.cell mi).trans (is_at hr)
            have fR4 := hbR4.frozen
            have hrr := hro r (List.mem_of_getElem? hr)
            have hgd : rooms.getD mi 0 = r := by rw [List.getD_eq_getElem?_getD, hr]; rfl
            have hroom := canF_room HCA.out
            have hnx := HNX.out
            rw [hgd] at hroom hnx
            have hst := hbR4.set mi (.int .i64 (r - p))
            rw [is_set] at hst
            obtain ⟨hrn, hs5⟩ := room_left hrr hpp hroom
            have hnext := part_next HMI.out
            rw [hnext] at hbN4
            have HST := Lib.hid hst
            have HNN := Lib.hid hnx
            have HRM := Lib.hid hroom
            have HBN := Lib.hid hbN4
            have hroom2 : p ≤ r := hroom
            have hmr2 := room_lt hmr HRL.out
            clear hst hnx hroom hbN4 hr hgd hnext cN fN
            go_wp2
            go_roundw
            case rel => exact ⟨i + 1, rooms.set mi (r - p), Nat.succ_le_of_lt HLT.out, by rw [HI.out], by have := HNN.out; rw [HI.out] at this; exact this, hro.set hrn, Lib.hid (by rw [List.length_set]; exact HRL.out), HST.out, HBN.out.setOther (a := ⟨gR, mi, none⟩) (Ne.symm hgRN) _, below_set hbl4 hgR0 _⟩
            case measure => clear hi1 hi2; simp [intOf]; have h1 := HI.out; have h2 := HLT.out; omega
    · obtain rfl : i = l.length := by omega
      have hln : (nums ns).length = ns.length := by simp [nums]
      rw [← HNL.out, ← hln, List.take_length, hln, Nat.sub_self, List.replicate_zero, List.append_nil] at hbN
      have HBN := Lib.hid hbN
      clear hbN hln
      go_wp2
      go_ret3
      refine ⟨gN, ?_, hgN0, HBN.out, hbl⟩
      rw [HNL.out]
      rfl
end Go.Proofs.Ythgekjkgfccnaaa

namespace Go.Proofs.Ythgekjkgfccnaaa
open Go.RowKit Num

def QuietB (w : World) (b : Bool) (e : Ending) (w' : World) : Prop := e = .returned (.bool b) ∧ ∃ n, w' = w.drewN n
set_option maxHeartbeats 400000 in
set_option maxRecDepth 100000 in
theorem same_t (A B : Option Addr) (c d L : Nat) (l : List Int) (w : World) (hA : Ints w A l) (hB : Ints w B l) (hL : L = l.length) (hl : L ≤ 1000000) :
    Calls Try.prog 35 #[.slice A L c, .slice B L d] w (QuietB w true) := by
  have HL := Lib.hid hL
  have HA := Lib.hid hA
  have HB := Lib.hid hB
  clear hL hA hB
  go_enter Try.func35, Try.ntmps35
  go_wp2
  go_loopw [5] (fun t wr => ∃ k n : Nat, k ≤ L ∧ t = .int .i64 (k : Int) ∧ wr = w.drewN n) (fun t _ => L - (intOf t).toNat)
  case atStart => exact ⟨0, 0, Nat.zero_le _, rfl, rfl⟩
  case round =>
    obtain ⟨k, n, hk, rfl, rfl⟩ := hrel
    by_cases hlt : k < L
    · have hkl : k < l.length := by have := HL.out; omega
      obtain ⟨g, off, x, rfl, hg, hx, hc⟩ := Ints.at_ HA.out (i := k) hkl
      obtain ⟨g', off', y, rfl, hg', hy, hc'⟩ := Ints.at_ HB.out (i := k) hkl
      have hxy : y = x := by rw [hx] at hy; injection hy with hy; exact hy.symm
      subst hxy
      have hi1 : IntKind.i64.wrap ((k : Int) + 1) = (k : Int) + 1 := wrapI (by omega) (by omega)
      clear hx hy
      go_wp2_with (fail)
      go_quiet (fail)
      go_wp2
      go_roundw
      case rel => exact ⟨k + 1, _, by omega, by go_num, rfl⟩
      case measure => simp [intOf]; omega
    · obtain rfl : k = L := by omega
      go_wp2
      go_ret
      exact ⟨rfl, n, rfl⟩

theorem lives_pull : pullN 7800 300 3000 440000 = 38426 := by decide +kernel
theorem lives_pc : pcErr [6, 4, 5, 5] 10 = 0 := by decide +kernel
set_option maxHeartbeats 1000000 in
set_option maxRecDepth 100000 in
theorem lives_any (w : World) : Calls Try.prog 16 #[] w (LivesPost w) := by
  have h1 := fun w1 => Tension_ok 7800 300 3000 440000 w1 ⟨by omega, by omega⟩ ⟨by omega, by omega⟩ ⟨by omega, by omega⟩ ⟨by omega, by omega⟩
  rw [lives_pull] at h1
  have h2 := fun w1 => coils_ok (some ⟨w1.heap.size, 0, none⟩) 4 [6, 4, 5, 5] [0, 0, 1, 1] 10 1 _ (ints_new w1 [6, 4, 5, 5]) (by simp) lives_pc (by simp) (by simp) (by intro p hp; simp at hp; omega) (by omega) lives_last (by simp) lives_greedy
  have hb := fun w1 => below_new w1 (.cells (is [6, 4, 5, 5]).toArray 3)
  have hs := fun g w1 (h : Ints w1 (some ⟨g, 0, none⟩) [0, 0, 1, 1]) => same_t (some ⟨g, 0, none⟩) (some ⟨w1.heap.size, 0, none⟩) 4 4 4 [0, 0, 1, 1] (w1.alloc (.cells (is [0, 0, 1, 1]).toArray 3)) (h.alloc _) (ints_new w1 [0, 0, 1, 1]) rfl (by omega)
  have hb2 := fun w1 => below_new w1 (.cells (is [0, 0, 1, 1]).toArray 3)
  have H1 := Lib.hid h1
  have H2 := Lib.hid h2
  have HB := Lib.hid hb
  have HS := Lib.hid hs
  have HB2 := Lib.hid hb2
  clear h1 h2 hb hs hb2
  go_enter Try.func16, Try.ntmps16
  go_wp2_with (fail)
  refine (H1.out _).mono ?_
  rintro e w1 ⟨rfl, hb1⟩
  go_wp2_with (fail)
  refine (H2.out w1).mono ?_
  rintro e w2 ⟨g, rfl, hg, hbk, hb2⟩
  have b2 := below_on (below_on hb1 hb1.size (HB.out w1)) (Nat.le_trans hb1.size (HB.out w1).size) hb2
  have HC := Lib.hid (HS.out g w2 hbk.vals0)
  go_wp2_with (fail)
  refine (HC.out).mono ?_
  rintro e w3 ⟨rfl, n, rfl⟩
  go_wp2
  go_ret
  exact ⟨rfl, below_drewN (below_on b2 b2.size (HB2.out w2)) n⟩
end Go.Proofs.Ythgekjkgfccnaaa

namespace Go.Proofs.Ythgekjkgfccnaaa
open Go.RowKit Num

theorem fold_any (v m : Int) (h0 : 0 < m) (hm : m ≤ 1000000000) (w : World) : Calls Try.prog 22 #[.int .i64 v, .int .i64 m] w fun e w' => e = .returned (.int .i64 (v % m + 1)) ∧ w = w' := by
  have h1 : v.tmod m = if 0 ≤ v ∨ m ∣ v then v % m else v % m - m := by
    rw [Int.tmod_eq_emod]
    split
    · simp
    · rw [Int.natAbs_of_nonneg (by omega)]
  have h2 := Int.emod_nonneg v (show m ≠ 0 by omega)
  have h3 := Int.emod_lt_of_pos v h0
  obtain ⟨q, hq⟩ : ∃ q, v.tmod m = q := ⟨_, rfl⟩
  obtain ⟨r, hr⟩ : ∃ r, v % m = r := ⟨_, rfl⟩
  have hb : -m < q ∧ q < m := by
    rw [← hq, h1]
    split <;> omega
  have h4 : (q + m).tmod m = r := by
    rw [Int.tmod_eq_emod_of_nonneg (by omega), ← hr]
    rw [← hq, h1]
    split
    · rw [Int.add_emod_right, Int.emod_emod_of_dvd _ (Int.dvd_refl m)]
    · rw [Int.sub_add_cancel, Int.emod_emod_of_dvd _ (Int.dvd_refl m)]
  have h5 : (q + m) % m = r := by rw [← h4, Int.tmod_eq_emod_of_nonneg (by omega)]
  rw [hr] at h1 h2 h3 ⊢
  have h6 : wrap64 (q + m) = q + m := by unfold wrap64; omega
  have h7 : IntKind.i64.wrap (q + m) = q + m := wrapI (by omega) (by omega)
  have h8 : wrap64 (r + 1) = r + 1 := by unfold wrap64; omega
  have h9 : IntKind.i64.wrap (r + 1) = r + 1 := wrapI (by omega) (by omega)
  have hz : ¬ m = 0 := by omega
  have g1 : 0 ≤ q + m := by omega
  clear hr h1
  go_enter Try.func22, Try.ntmps22
  go_wp2
  go_ret
  exact ⟨rfl, rfl⟩
theorem fold_nat (v m : Int) (h0 : 0 < m) (hm : m ≤ 1000000000) : ∃ d : Nat, 1 ≤ d ∧ (d : Int) ≤ m ∧ ∀ w, Calls Try.prog 22 #[.int .i64 v, .int .i64 m] w fun e w' => e = .returned (.int .i64 (d : Int)) ∧ w = w' := by
  have h2 := Int.emod_nonneg v (show m ≠ 0 by omega)
  have h3 := Int.emod_lt_of_pos v h0
  refine ⟨(v % m + 1).toNat, by omega, by omega, fun w => ?_⟩
  have := fold_any v m (by omega) (by omega) w
  rwa [show (((v % m + 1).toNat : Nat) : Int) = v % m + 1 by omega]
end Go.Proofs.Ythgekjkgfccnaaa

namespace Go.Proofs.Ythgekjkgfccnaaa
open Go.RowKit Num

theorem pullN_thick (d wd l f : Nat) : 4 * pullN d wd l f ≤ pullN d (2 * wd) l f ∧ pullN d (2 * wd) l f ≤ 4 * pullN d wd l f + 3 := by
  have e : prodN [355, d, 2 * wd, 2 * wd, l, l, f, f] = 4 * prodN [355, d, wd, wd, l, l, f, f] := by
    simp only [prodN, List.foldl_cons, List.foldl_nil]
    grind
  unfold pullN
  rw [e]
  generalize prodN [355, d, wd, wd, l, l, f, f] = x
  omega
theorem pullN_oct (d wd l f : Nat) : pullN d wd l (2 * f) = pullN d wd (2 * l) f := by
  unfold pullN
  congr 1
  simp only [prodN, List.foldl_cons, List.foldl_nil]
  grind
theorem stressN_oct (d l f : Nat) : stressN d l (2 * f) = stressN d (2 * l) f := by
  unfold stressN
  congr 1
  simp only [prodN, List.foldl_cons, List.foldl_nil]
  grind
theorem holdN_oct (d s l f sf : Nat) : holdN d s l (2 * f) sf = holdN d s (2 * l) f sf := by
  unfold holdN
  have : prodN [400, d, l, l, 2 * f, 2 * f] = prodN [400, d, 2 * l, 2 * l, f, f] := by
    simp only [prodN, List.foldl_cons, List.foldl_nil]
    grind
  rw [this]
theorem pullN_mono {d wd l f d' wd' l' f' : Nat} (h1 : d ≤ d') (h2 : wd ≤ wd') (h3 : l ≤ l') (h4 : f ≤ f') : pullN d wd l f ≤ pullN d' wd' l' f' :=
  Nat.div_le_div_right (prodN_mono ⟨Nat.le_refl _, h1, h2, h2, h3, h3, h4, h4, trivial⟩)
theorem stressN_mono {d l f d' l' f' : Nat} (h1 : d ≤ d') (h3 : l ≤ l') (h4 : f ≤ f') : stressN d l f ≤ stressN d' l' f' :=
  Nat.div_le_div_right (prodN_mono ⟨Nat.le_refl _, h1, h3, h3, h4, h4, trivial⟩)
theorem quiet_f {P : Program} {f : FuncId} {args : Array Value} {v : Value} (h : ∀ w, Calls P f args w fun e w' => e = .returned v ∧ w = w') (w : World) (n : Nat) :
    Calls P f args (w.drewN n) fun e w'' => e = .returned v ∧ ∃ m, w'' = w.drewN m := quiet_l (h _)
set_option maxHeartbeats 4000000 in
set_option maxRecDepth 100000 in
theorem thick_walk (x0 x1 x2 x3 x4 x5 : Int) (w : World) : Calls Try.prog 7 #[.agg #[.int .i64 x0, .int .i64 x1, .int .i64 x2, .int .i64 x3, .int .i64 x4, .int .i64 x5]] w (LivesPost w) := by
  obtain ⟨d, d1, d2, hdc⟩ := fold_nat x0 30000 (by omega) (by omega)
  have Hdc := Lib.hid hdc
  clear hdc
  obtain ⟨wd, wd1, wd2, hwdc⟩ := fold_nat x2 1000 (by omega) (by omega)
  have Hwdc := Lib.hid hwdc
  clear hwdc
  obtain ⟨l, l1, l2, hlc⟩ := fold_nat x3 100000 (by omega) (by omega)
  have Hlc := Lib.hid hlc
  clear hlc
  obtain ⟨f, f1, f2, hfc⟩ := fold_nat x4 10000000 (by omega) (by omega)
  have Hfc := Lib.hid hfc
  clear hfc
  have hd : InD d := ⟨d1, by omega⟩
  have hw : InW wd := ⟨wd1, by omega⟩
  have hw2 : InW (2 * wd) := ⟨by omega, by omega⟩
  have hl : InL l := ⟨l1, by omega⟩
  have hf : InF f := ⟨f1, by omega⟩
  have ht1 := fun w1 => Tension_ok d wd l f w1 hd hw hl hf
  have ht2 := fun w1 => Tension_ok d (2 * wd) l f w1 hd hw2 hl hf
  have hb1 := pull_lt hd hw hl hf
  have hb2 := pull_lt hd hw2 hl hf
  obtain ⟨k1, k2⟩ := pullN_thick d wd l f
  generalize pullN d wd l f = a at *
  generalize pullN d (2 * wd) l f = b at *
  have e2 : ((2 * wd : Nat) : Int) = 2 * (wd : Int) := by push_cast; rfl
  rw [e2] at ht2
  have q1 : decide (4 * (a : Int) ≤ (b : Int)) = true := by simp; omega
  have q2 : decide ((b : Int) ≤ 4 * (a : Int) + 3) = true := by simp; omega
  have hba := below_new w (.cells #[.int .i64 x0, .int .i64 x1, .int .i64 x2, .int .i64 x3, .int .i64 x4, .int .i64 x5] 23)
  have hli := fun w1 => lives_any w1
  have W1 : wrap64 (2 * (wd : Int)) = 2 * (wd : Int) := by unfold wrap64; omega
  have W2 : wrap64 (4 * (a : Int)) = 4 * (a : Int) := by unfold wrap64; omega
  have W3 : wrap64 (4 * (a : Int) + 3) = 4 * (a : Int) + 3 := by unfold wrap64; omega
  clear e2 hd hw hw2 hl hf k1 k2
  have Ht1 := Lib.hid ht1
  have Ht2 := Lib.hid ht2
  have Hli := Lib.hid hli
  have Hba := Lib.hid hba
  clear ht1 ht2 hli hba
  go_enter Try.func7, Try.ntmps7
  go_wp2_with (fail)
  go_quiet ((go_at_call 22; first | with_reducible exact quiet_l (Hdc.out _) | with_reducible exact quiet_a (Hdc.out _) | with_reducible exact quiet_l (Hwdc.out _) | with_reducible exact quiet_a (Hwdc.out _) | with_reducible exact quiet_l (Hlc.out _) | with_reducible exact quiet_a (Hlc.out _) | with_reducible exact quiet_l (Hfc.out _) | with_reducible exact quiet_a (Hfc.out _)))
  go_wp2_with (fail)
  refine (Ht1.out _).mono ?_
  rintro e w1 ⟨rfl, hb3⟩
  go_wp2_with (fail)
  refine (Ht2.out _).mono ?_
  rintro e w2 ⟨rfl, hb4⟩
  go_wp2_with (fail)
  refine (Hli.out _).mono ?_
  rintro e w3 ⟨rfl, hb5⟩
  go_wp2
  go_ret
  exact ⟨rfl, below_on (below_on (below_on (below_drewN Hba.out _) (below_drewN Hba.out _).size hb3) (Nat.le_trans (below_drewN Hba.out _).size hb3.size) hb4) (Nat.le_trans (Nat.le_trans (below_drewN Hba.out _).size hb3.size) hb4.size) hb5⟩

end Go.Proofs.Ythgekjkgfccnaaa

namespace Go.Proofs.Ythgekjkgfccnaaa
open Go.RowKit Num

set_option maxHeartbeats 4000000 in
set_option maxRecDepth 100000 in
theorem octaves_walk (x0 x1 x2 x3 x4 x5 : Int) (w : World) : Calls Try.prog 6 #[.agg #[.int .i64 x0, .int .i64 x1, .int .i64 x2, .int .i64 x3, .int .i64 x4, .int .i64 x5]] w (LivesPost w) := by
  obtain ⟨d, d1, d2, hdc⟩ := fold_nat x0 30000 (by omega) (by omega)
  have Hdc := Lib.hid hdc
  clear hdc
  obtain ⟨wd, wd1, wd2, hwdc⟩ := fold_nat x2 2000 (by omega) (by omega)
  have Hwdc := Lib.hid hwdc
  clear hwdc
  obtain ⟨l, l1, l2, hlc⟩ := fold_nat x3 50000 (by omega) (by omega)
  have Hlc := Lib.hid hlc
  clear hlc
  obtain ⟨f, f1, f2, hfc⟩ := fold_nat x4 5000000 (by omega) (by omega)
  have Hfc := Lib.hid hfc
  clear hfc
  obtain ⟨s, s1, s2, hsc⟩ := fold_nat x1 100000 (by omega) (by omega)
  have Hsc := Lib.hid hsc
  clear hsc
  obtain ⟨sf, sf1, sf2, hsfc⟩ := fold_nat x5 100 (by omega) (by omega)
  have Hsfc := Lib.hid hsfc
  clear hsfc
  have hd : InD d := ⟨d1, by omega⟩
  have hw : InW wd := ⟨wd1, by omega⟩
  have hl : InL l := ⟨l1, by omega⟩
  have hl2 : InL (2 * l) := ⟨by omega, by omega⟩
  have hf : InF f := ⟨f1, by omega⟩
  have hf2 : InF (2 * f) := ⟨by omega, by omega⟩
  have hs : InS s := ⟨s1, by omega⟩
  have hp : InP sf := ⟨sf1, by omega⟩
  have ht1 := fun w1 => Tension_ok d wd l (2 * f) w1 hd hw hl hf2
  have ht2 := fun w1 => Tension_ok d wd (2 * l) f w1 hd hw hl2 hf
  have ht3 := fun w1 => Stress_ok d l (2 * f) w1 hd hl hf2
  have ht4 := fun w1 => Stress_ok d (2 * l) f w1 hd hl2 hf
  have ht5 := fun w1 => Holds_ok d s l (2 * f) sf w1 hd hs hl hf2 hp
  have ht6 := fun w1 => Holds_ok d s (2 * l) f sf w1 hd hs hl2 hf hp
  rw [← pullN_oct] at ht2
  rw [← stressN_oct] at ht4
  rw [← holdN_oct] at ht6
  generalize pullN d wd l (2 * f) = a at *
  generalize stressN d l (2 * f) = b at *
  generalize holdN d s l (2 * f) sf = c at *
  have el : ((2 * l : Nat) : Int) = 2 * (l : Int) := by push_cast; rfl
  have ef : ((2 * f : Nat) : Int) = 2 * (f : Int) := by push_cast; rfl
  rw [ef] at ht1 ht3 ht5
  rw [el] at ht2 ht4 ht6
  have hba := below_new w (.cells #[.int .i64 x0, .int .i64 x1, .int .i64 x2, .int .i64 x3, .int .i64 x4, .int .i64 x5] 23)
  have hli := fun w1 => lives_any w1
  have W1 : wrap64 (2 * (l : Int)) = 2 * (l : Int) := by unfold wrap64; omega
  have W2 : wrap64 (2 * (f : Int)) = 2 * (f : Int) := by unfold wrap64; omega
  clear el ef hd hw hl hl2 hf hf2 hs hp
  have Ht1 := Lib.hid ht1
  have Ht2 := Lib.hid ht2
  have Ht3 := Lib.hid ht3
  have Ht4 := Lib.hid ht4
  have Ht5 := Lib.hid ht5
  have Ht6 := Lib.hid ht6
  have Hli := Lib.hid hli
  have Hba := Lib.hid hba
  clear ht1 ht2 ht3 ht4 ht5 ht6 hli hba
  go_enter Try.func6, Try.ntmps6
  go_wp2_with (fail)
  go_quiet ((go_at_call 22; first | with_reducible exact quiet_l (Hdc.out _) | with_reducible exact quiet_a (Hdc.out _) | with_reducible exact quiet_l (Hwdc.out _) | with_reducible exact quiet_a (Hwdc.out _) | with_reducible exact quiet_l (Hlc.out _) | with_reducible exact quiet_a (Hlc.out _) | with_reducible exact quiet_l (Hfc.out _) | with_reducible exact quiet_a (Hfc.out _)))
  go_wp2_with (fail)
  go_quiet ((go_at_call 22; first | with_reducible exact quiet_l (Hsc.out _) | with_reducible exact quiet_a (Hsc.out _) | with_reducible exact quiet_l (Hsfc.out _) | with_reducible exact quiet_a (Hsfc.out _)))
  go_wp2_with (fail)
  refine (Ht1.out _).mono ?_
  rintro e w1 ⟨rfl, hb1⟩
  have b1 := below_on (below_drewN Hba.out _) ((below_drewN Hba.out _)).size hb1
  go_wp2_with (fail)
  refine (Ht2.out _).mono ?_
  rintro e w2 ⟨rfl, hb2⟩
  have b2 := below_on b1 (b1).size hb2
  go_wp2_with (fail)
  refine (Ht3.out _).mono ?_
  rintro e w3 ⟨rfl, hb3⟩
  have b3 := below_on b2 (b2).size hb3
  go_wp2_with (fail)
  refine (Ht4.out _).mono ?_
  rintro e w4 ⟨rfl, hb4⟩
  have b4 := below_on b3 (b3).size hb4
  go_wp2_with (fail)
  refine (Ht5.out _).mono ?_
  rintro e w5 ⟨rfl, hb5⟩
  have b5 := below_on b4 (b4).size hb5
  go_wp2_with (fail)
  refine (Ht6.out _).mono ?_
  rintro e w6 ⟨rfl, hb6⟩
  have b6 := below_on b5 (b5).size hb6
  go_wp2_with (fail)
  refine (Hli.out _).mono ?_
  rintro e w7 ⟨rfl, hb7⟩
  have b7 := below_on b6 (b6).size hb7
  go_wp2
  go_ret
  exact ⟨rfl, b7⟩

theorem max_cast (a b : Nat) : max (a : Int) (b : Int) = ((max a b : Nat) : Int) := by
  rcases Nat.le_total a b with h | h
  · rw [Nat.max_eq_right h, Int.max_eq_right (by omega)]
  · rw [Nat.max_eq_left h, Int.max_eq_left (by omega)]
set_option maxHeartbeats 4000000 in
set_option maxRecDepth 100000 in
theorem rises_walk (x0 x1 x2 x3 x4 x5 y0 y1 y2 y3 y4 y5 : Int) (w : World) : Calls Try.prog 5 #[.agg #[.int .i64 x0, .int .i64 x1, .int .i64 x2, .int .i64 x3, .int .i64 x4, .int .i64 x5], .agg #[.int .i64 y0, .int .i64 y1, .int .i64 y2, .int .i64 y3, .int .i64 y4, .int .i64 y5]] w (LivesPost w) := by
  obtain ⟨d, d1, d2, hdc⟩ := fold_nat x0 30000 (by omega) (by omega)
  have Hdc := Lib.hid hdc
  clear hdc
  obtain ⟨e, e1, e2, hec⟩ := fold_nat y0 30000 (by omega) (by omega)
  have Hec := Lib.hid hec
  clear hec
  obtain ⟨wd, wd1, wd2, hwdc⟩ := fold_nat x2 2000 (by omega) (by omega)
  have Hwdc := Lib.hid hwdc
  clear hwdc
  obtain ⟨v, v1, v2, hvc⟩ := fold_nat y2 2000 (by omega) (by omega)
  have Hvc := Lib.hid hvc
  clear hvc
  obtain ⟨l, l1, l2, hlc⟩ := fold_nat x3 100000 (by omega) (by omega)
  have Hlc := Lib.hid hlc
  clear hlc
  obtain ⟨m, m1, m2, hmc⟩ := fold_nat y3 100000 (by omega) (by omega)
  have Hmc := Lib.hid hmc
  clear hmc
  obtain ⟨f, f1, f2, hfc⟩ := fold_nat x4 10000000 (by omega) (by omega)
  have Hfc := Lib.hid hfc
  clear hfc
  obtain ⟨g, g1, g2, hgc⟩ := fold_nat y4 10000000 (by omega) (by omega)
  have Hgc := Lib.hid hgc
  clear hgc
  have hd : InD d := ⟨d1, by omega⟩
  have hw : InW wd := ⟨wd1, by omega⟩
  have hl : InL l := ⟨l1, by omega⟩
  have hf : InF f := ⟨f1, by omega⟩
  have hd' : InD (max d e) := ⟨Nat.le_trans d1 (Nat.le_max_left _ _), Nat.max_le.2 ⟨by omega, by omega⟩⟩
  have hw' : InW (max wd v) := ⟨Nat.le_trans wd1 (Nat.le_max_left _ _), Nat.max_le.2 ⟨by omega, by omega⟩⟩
  have hl' : InL (max l m) := ⟨Nat.le_trans l1 (Nat.le_max_left _ _), Nat.max_le.2 ⟨by omega, by omega⟩⟩
  have hf' : InF (max f g) := ⟨Nat.le_trans f1 (Nat.le_max_left _ _), Nat.max_le.2 ⟨by omega, by omega⟩⟩
  have ht1 := fun w1 => Tension_ok d wd l f w1 hd hw hl hf
  have ht2 := fun w1 => Tension_ok _ _ _ _ w1 hd' hw' hl' hf'
  have ht3 := fun w1 => Stress_ok d l f w1 hd hl hf
  have ht4 := fun w1 => Stress_ok _ _ _ w1 hd' hl' hf'
  have k1 : pullN d wd l f ≤ pullN (max d e) (max wd v) (max l m) (max f g) := pullN_mono (Nat.le_max_left _ _) (Nat.le_max_left _ _) (Nat.le_max_left _ _) (Nat.le_max_left _ _)
  have k2 : stressN d l f ≤ stressN (max d e) (max l m) (max f g) := stressN_mono (Nat.le_max_left _ _) (Nat.le_max_left _ _) (Nat.le_max_left _ _)
  have M1 := max_cast d e
  have M2 := max_cast wd v
  have M3 := max_cast l m
  have M4 := max_cast f g
  generalize pullN d wd l f = a at *
  generalize stressN d l f = s at *
  generalize pullN (max d e) (max wd v) (max l m) (max f g) = b at *
  generalize stressN (max d e) (max l m) (max f g) = t at *
  generalize max d e = D at *
  generalize max wd v = W at *
  generalize max l m = L at *
  generalize max f g = F at *
  have q1 : decide ((0 : Int) ≤ (a : Int)) = true := by simp
  have q2 : decide ((a : Int) ≤ (b : Int)) = true := by simp; omega
  have q3 : decide ((0 : Int) ≤ (s : Int)) = true := by simp
  have q4 : decide ((s : Int) ≤ (t : Int)) = true := by simp; omega
  have q5 : decide (a ≤ b) = true := by simp; omega
  have q6 : decide (s ≤ t) = true := by simp; omega
  have hba : Below w.heap.size w ((w.alloc (.cells #[.int .i64 x0, .int .i64 x1, .int .i64 x2, .int .i64 x3, .int .i64 x4, .int .i64 x5] 23)).alloc (.cells #[.int .i64 y0, .int .i64 y1, .int .i64 y2, .int .i64 y3, .int .i64 y4, .int .i64 y5] 23)) := ((Below.refl _ _).alloc (Nat.le_refl _) _).alloc (by simp) _
  have hli := fun w1 => lives_any w1
  clear hd hw hl hf hd' hw' hl' hf' k1 k2
  have Ht1 := Lib.hid ht1
  have Ht2 := Lib.hid ht2
  have Ht3 := Lib.hid ht3
  have Ht4 := Lib.hid ht4
  have Hli := Lib.hid hli
  have Hba := Lib.hid hba
  clear ht1 ht2 ht3 ht4 hli hba
  go_enter Try.func5, Try.ntmps5
  go_wp2_with (fail)
  go_quiet ((go_at_call 22; first | with_reducible exact quiet_l (Hdc.out _) | with_reducible exact quiet_a (Hdc.out _) | with_reducible exact quiet_l (Hec.out _) | with_reducible exact quiet_a (Hec.out _)))
  go_wp2_with (fail)
  go_quiet ((go_at_call 22; first | with_reducible exact quiet_l (Hwdc.out _) | with_reducible exact quiet_a (Hwdc.out _) | with_reducible exact quiet_l (Hvc.out _) | with_reducible exact quiet_a (Hvc.out _)))
  go_wp2_with (fail)
  go_quiet ((go_at_call 22; first | with_reducible exact quiet_l (Hlc.out _) | with_reducible exact quiet_a (Hlc.out _) | with_reducible exact quiet_l (Hmc.out _) | with_reducible exact quiet_a (Hmc.out _)))
  go_wp2_with (fail)
  go_quiet ((go_at_call 22; first | with_reducible exact quiet_l (Hfc.out _) | with_reducible exact quiet_a (Hfc.out _) | with_reducible exact quiet_l (Hgc.out _) | with_reducible exact quiet_a (Hgc.out _)))
  go_wp2_with (fail)
  refine (Ht1.out _).mono ?_
  rintro e w1 ⟨rfl, hb1⟩
  have b1 := below_on (below_drewN Hba.out _) ((below_drewN Hba.out _)).size hb1
  go_wp2_with (fail)
  refine (Ht2.out _).mono ?_
  rintro e w2 ⟨rfl, hb2⟩
  have b2 := below_on b1 (b1).size hb2
  go_wp2_with (fail)
  refine (Ht3.out _).mono ?_
  rintro e w3 ⟨rfl, hb3⟩
  have b3 := below_on b2 (b2).size hb3
  go_wp2_with (fail)
  refine (Ht4.out _).mono ?_
  rintro e w4 ⟨rfl, hb4⟩
  have b4 := below_on b3 (b3).size hb4
  go_wp2_with (fail)
  refine (Hli.out _).mono ?_
  rintro e w5 ⟨rfl, hb5⟩
  have b5 := below_on b4 (b4).size hb5
  go_wp2
  go_ret
  exact ⟨rfl, b5⟩

theorem holdN_long {d s f sf r : Nat} (hd : InD d) (hf : InF f) (h : IsLong d s f sf r) (l : Nat) : holdN d s l f sf = decide (l ≤ r) := by
  have e : prodN [400, d, l, l, f, f] = l ^ 2 * prodN [400, d, f, f] := by
    simp only [prodN, List.foldl_cons, List.foldl_nil]
    grind
  have hp := den_pos hd hf
  unfold holdN IsLong at *
  rw [e]
  generalize prodN [400, d, f, f] = D at *
  generalize 10 ^ 20 * (sf * s) = S at *
  have h1 : l ^ 2 * D ≤ S ↔ l ^ 2 ≤ S / D := (Nat.le_div_iff_mul_le hp).symm
  have h2 : l ^ 2 ≤ S / D ↔ l ≤ r := by
    constructor
    · intro k
      rcases Nat.lt_or_ge r l with h3 | h3
      · have h4 : (r + 1) ^ 2 ≤ l ^ 2 := Nat.pow_le_pow_left h3 2
        have := h.2
        omega
      · exact h3
    · intro k
      exact Nat.le_trans (Nat.pow_le_pow_left k 2) h.1
  rw [Bool.eq_iff_iff]
  simp only [decide_eq_true_eq]
  rw [h1, h2]
set_option maxHeartbeats 4000000 in
set_option maxRecDepth 100000 in
theorem limit_walk (x0 x1 x2 x3 x4 x5 len : Int) (w : World) : Calls Try.prog 8 #[.agg #[.int .i64 x0, .int .i64 x1, .int .i64 x2, .int .i64 x3, .int .i64 x4, .int .i64 x5], .int .i64 len] w (LivesPost w) := by
  obtain ⟨d, d1, d2, hdc⟩ := fold_nat x0 30000 (by omega) (by omega)
  have Hdc := Lib.hid hdc
  clear hdc
  obtain ⟨s, s1, s2, hsc⟩ := fold_nat x1 100000 (by omega) (by omega)
  have Hsc := Lib.hid hsc
  clear hsc
  obtain ⟨f, f1, f2, hfc⟩ := fold_nat x4 10000000 (by omega) (by omega)
  have Hfc := Lib.hid hfc
  clear hfc
  obtain ⟨sf, sf1, sf2, hsfc⟩ := fold_nat x5 100 (by omega) (by omega)
  have Hsfc := Lib.hid hsfc
  clear hsfc
  obtain ⟨l, l1, l2, hlc⟩ := fold_nat len 100000 (by omega) (by omega)
  have Hlc := Lib.hid hlc
  clear hlc
  have hd : InD d := ⟨d1, by omega⟩
  have hs : InS s := ⟨s1, by omega⟩
  have hl : InL l := ⟨l1, by omega⟩
  have hf : InF f := ⟨f1, by omega⟩
  have hp : InP sf := ⟨sf1, by omega⟩
  obtain ⟨r, hr⟩ : ∃ r, IsLong d s f sf r := root_exists 2 _ (by omega)
  have hho := holdN_long hd hf hr
  have ht1 := fun w1 => Longest_ok d s f sf r w1 hd hs hf hp hr
  have ht2 := fun w1 => Holds_ok d s l f sf w1 hd hs hl hf hp
  rw [hho l] at ht2
  have hba := below_new w (.cells #[.int .i64 x0, .int .i64 x1, .int .i64 x2, .int .i64 x3, .int .i64 x4, .int .i64 x5] 23)
  have hli := fun w1 => lives_any w1
  by_cases h0 : r = 0
  · rw [show decide (l ≤ r) = false by simp; omega] at ht2
    simp only [if_pos h0] at ht1
    clear hd hs hl hf hp hr hho h0
    have Ht1 := Lib.hid ht1
    have Ht2 := Lib.hid ht2
    have Hli := Lib.hid hli
    have Hba := Lib.hid hba
    clear ht1 ht2 hli hba
    go_enter Try.func8, Try.ntmps8
    go_wp2_with (fail)
    go_quiet ((go_at_call 22; first | with_reducible exact quiet_l (Hdc.out _) | with_reducible exact quiet_a (Hdc.out _) | with_reducible exact quiet_l (Hsc.out _) | with_reducible exact quiet_a (Hsc.out _) | with_reducible exact quiet_l (Hfc.out _) | with_reducible exact quiet_a (Hfc.out _) | with_reducible exact quiet_l (Hsfc.out _) | with_reducible exact quiet_a (Hsfc.out _)))
    go_wp2_with (fail)
    refine (Ht1.out _).mono ?_
    rintro e w1 ⟨rfl, hb1⟩
    have b1 := below_on (below_drewN Hba.out _) ((below_drewN Hba.out _)).size hb1
    go_wp2_with (fail)
    refine (Hlc.out _).mono ?_
    rintro e w1 ⟨rfl, rfl⟩
    go_wp2_with (fail)
    refine (Ht2.out _).mono ?_
    rintro e w2 ⟨rfl, hb2⟩
    have b2 := below_on b1 (b1).size hb2
    go_wp2_with (fail)
    refine (Hli.out _).mono ?_
    rintro e w3 ⟨rfl, hb3⟩
    have b3 := below_on b2 (b2).size hb3
    go_wp2
    go_ret
    exact ⟨rfl, b3⟩
  · simp only [if_neg h0] at ht1
    obtain ⟨n, hn⟩ : ∃ n, min r 100000 = n := ⟨_, rfl⟩
    have hn1 : n ≤ 100000 := by rw [← hn]; exact Nat.min_le_right _ _
    have hn2 : n ≤ r := by rw [← hn]; exact Nat.min_le_left _ _
    have hn3 : 1 ≤ n := by rw [← hn]; exact Nat.le_min.2 ⟨by omega, by omega⟩
    have hn4 : n < 100000 → n = r := fun h => by
      rw [← hn] at h ⊢
      rcases Nat.le_total r 100000 with h1 | h1
      · exact Nat.min_eq_left h1
      · rw [Nat.min_eq_right h1] at h; omega
    rw [hn] at ht1
    have hln : decide (l ≤ r) = decide (l ≤ n) := by
      rw [Bool.eq_iff_iff]
      simp only [decide_eq_true_eq]
      constructor
      · intro h
        by_cases h9 : n < 100000
        · rw [hn4 h9]; exact h
        · omega
      · intro h; omega
    rw [hln] at ht2
    have hN : InL n := ⟨hn3, hn1⟩
    have ht3 := fun w1 => Holds_ok d s n f sf w1 hd hs hN hf hp
    rw [hho n, show decide (n ≤ r) = true by simp; omega] at ht3
    have qa : decide ((n : Int) < 1) = false := by simp; omega
    have qb : decide ((100000 : Int) < (n : Int)) = false := by simp; omega
    have qc : decide ((l : Int) ≤ (n : Int)) = decide (l ≤ n) := by rw [Bool.eq_iff_iff]; simp
    generalize hq : decide (l ≤ n) = q at *
    by_cases h9 : n < 100000
    · have hN2 : InL (n + 1) := ⟨by omega, by omega⟩
      have ht4 := fun w1 => Holds_ok d s (n + 1) f sf w1 hd hs hN2 hf hp
      rw [hho (n + 1), show decide (n + 1 ≤ r) = false by have := hn4 h9; simp; omega] at ht4
      rw [show ((n + 1 : Nat) : Int) = (n : Int) + 1 by push_cast; rfl] at ht4
      have W1 : wrap64 ((n : Int) + 1) = (n : Int) + 1 := by unfold wrap64; omega
      have W2 : IntKind.i64.wrap ((n : Int) + 1) = (n : Int) + 1 := wrapI (by omega) (by omega)
      have qd : decide ((n : Int) < 100000) = true := by simp; omega
      clear hd hs hl hf hp hr hho h0 hn hn4 hN hN2 hln h9 hn1 hn2 hn3 d2 s2 f2 sf2 l2
      cases q with
      | false =>
        have Ht1 := Lib.hid ht1
        have Ht2 := Lib.hid ht2
        have Ht3 := Lib.hid ht3
        have Ht4 := Lib.hid ht4
        have Hli := Lib.hid hli
        have Hba := Lib.hid hba
        clear ht1 ht2 ht3 ht4 hli hba
        go_enter Try.func8, Try.ntmps8
        go_wp2_with (fail)
        go_quiet ((go_at_call 22; first | with_reducible exact quiet_l (Hdc.out _) | with_reducible exact quiet_a (Hdc.out _) | with_reducible exact quiet_l (Hsc.out _) | with_reducible exact quiet_a (Hsc.out _) | with_reducible exact quiet_l (Hfc.out _) | with_reducible exact quiet_a (Hfc.out _) | with_reducible exact quiet_l (Hsfc.out _) | with_reducible exact quiet_a (Hsfc.out _)))
        go_wp2_with (fail)
        refine (Ht1.out _).mono ?_
        rintro e w1 ⟨rfl, hb1⟩
        have b1 := below_on (below_drewN Hba.out _) ((below_drewN Hba.out _)).size hb1
        go_wp2_with (fail)
        refine (Hlc.out _).mono ?_
        rintro e w1 ⟨rfl, rfl⟩
        go_wp2_with (fail)
        refine (Ht2.out _).mono ?_
        rintro e w2 ⟨rfl, hb2⟩
        have b2 := below_on b1 (b1).size hb2
        go_wp2_with (fail)
        refine (Hli.out _).mono ?_
        rintro e w3 ⟨rfl, hb3⟩
        have b3 := below_on b2 (b2).size hb3
        go_wp2_with (fail)
        refine (Ht3.out _).mono ?_
        rintro e w4 ⟨rfl, hb4⟩
        have b4 := below_on b3 (b3).size hb4
        go_wp2_with (fail)
        refine (Ht4.out _).mono ?_
        rintro e w5 ⟨rfl, hb5⟩
        have b5 := below_on b4 (b4).size hb5
        go_wp2
        go_ret
        exact ⟨rfl, b5⟩
      | true =>
        have Ht1 := Lib.hid ht1
        have Ht2 := Lib.hid ht2
        have Ht3 := Lib.hid ht3
        have Ht4 := Lib.hid ht4
        have Hli := Lib.hid hli
        have Hba := Lib.hid hba
        clear ht1 ht2 ht3 ht4 hli hba
        go_enter Try.func8, Try.ntmps8
        go_wp2_with (fail)
        go_quiet ((go_at_call 22; first | with_reducible exact quiet_l (Hdc.out _) | with_reducible exact quiet_a (Hdc.out _) | with_reducible exact quiet_l (Hsc.out _) | with_reducible exact quiet_a (Hsc.out _) | with_reducible exact quiet_l (Hfc.out _) | with_reducible exact quiet_a (Hfc.out _) | with_reducible exact quiet_l (Hsfc.out _) | with_reducible exact quiet_a (Hsfc.out _)))
        go_wp2_with (fail)
        refine (Ht1.out _).mono ?_
        rintro e w1 ⟨rfl, hb1⟩
        have b1 := below_on (below_drewN Hba.out _) ((below_drewN Hba.out _)).size hb1
        go_wp2_with (fail)
        refine (Hlc.out _).mono ?_
        rintro e w1 ⟨rfl, rfl⟩
        go_wp2_with (fail)
        refine (Ht2.out _).mono ?_
        rintro e w2 ⟨rfl, hb2⟩
        have b2 := below_on b1 (b1).size hb2
        go_wp2_with (fail)
        refine (Hli.out _).mono ?_
        rintro e w3 ⟨rfl, hb3⟩
        have b3 := below_on b2 (b2).size hb3
        go_wp2_with (fail)
        refine (Ht3.out _).mono ?_
        rintro e w4 ⟨rfl, hb4⟩
        have b4 := below_on b3 (b3).size hb4
        go_wp2_with (fail)
        refine (Ht4.out _).mono ?_
        rintro e w5 ⟨rfl, hb5⟩
        have b5 := below_on b4 (b4).size hb5
        go_wp2
        go_ret
        exact ⟨rfl, b5⟩
    · have qd : decide ((n : Int) < 100000) = false := by simp; omega
      clear hd hs hl hf hp hr hho h0 hn hn4 hN hln h9 hn1 hn2 hn3 d2 s2 f2 sf2 l2
      cases q with
      | false =>
        have Ht1 := Lib.hid ht1
        have Ht2 := Lib.hid ht2
        have Ht3 := Lib.hid ht3
        have Hli := Lib.hid hli
        have Hba := Lib.hid hba
        clear ht1 ht2 ht3 hli hba
        go_enter Try.func8, Try.ntmps8
        go_wp2_with (fail)
        go_quiet ((go_at_call 22; first | with_reducible exact quiet_l (Hdc.out _) | with_reducible exact quiet_a (Hdc.out _) | with_reducible exact quiet_l (Hsc.out _) | with_reducible exact quiet_a (Hsc.out _) | with_reducible exact quiet_l (Hfc.out _) | with_reducible exact quiet_a (Hfc.out _) | with_reducible exact quiet_l (Hsfc.out _) | with_reducible exact quiet_a (Hsfc.out _)))
        go_wp2_with (fail)
        refine (Ht1.out _).mono ?_
        rintro e w1 ⟨rfl, hb1⟩
        have b1 := below_on (below_drewN Hba.out _) ((below_drewN Hba.out _)).size hb1
        go_wp2_with (fail)
        refine (Hlc.out _).mono ?_
        rintro e w1 ⟨rfl, rfl⟩
        go_wp2_with (fail)
        refine (Ht2.out _).mono ?_
        rintro e w2 ⟨rfl, hb2⟩
        have b2 := below_on b1 (b1).size hb2
        go_wp2_with (fail)
        refine (Hli.out _).mono ?_
        rintro e w3 ⟨rfl, hb3⟩
        have b3 := below_on b2 (b2).size hb3
        go_wp2_with (fail)
        refine (Ht3.out _).mono ?_
        rintro e w4 ⟨rfl, hb4⟩
        have b4 := below_on b3 (b3).size hb4
        go_wp2
        go_ret
        exact ⟨rfl, b4⟩
      | true =>
        have Ht1 := Lib.hid ht1
        have Ht2 := Lib.hid ht2
        have Ht3 := Lib.hid ht3
        have Hli := Lib.hid hli
        have Hba := Lib.hid hba
        clear ht1 ht2 ht3 hli hba
        go_enter Try.func8, Try.ntmps8
        go_wp2_with (fail)
        go_quiet ((go_at_call 22; first | with_reducible exact quiet_l (Hdc.out _) | with_reducible exact quiet_a (Hdc.out _) | with_reducible exact quiet_l (Hsc.out _) | with_reducible exact quiet_a (Hsc.out _) | with_reducible exact quiet_l (Hfc.out _) | with_reducible exact quiet_a (Hfc.out _) | with_reducible exact quiet_l (Hsfc.out _) | with_reducible exact quiet_a (Hsfc.out _)))
        go_wp2_with (fail)
        refine (Ht1.out _).mono ?_
        rintro e w1 ⟨rfl, hb1⟩
        have b1 := below_on (below_drewN Hba.out _) ((below_drewN Hba.out _)).size hb1
        go_wp2_with (fail)
        refine (Hlc.out _).mono ?_
        rintro e w1 ⟨rfl, rfl⟩
        go_wp2_with (fail)
        refine (Ht2.out _).mono ?_
        rintro e w2 ⟨rfl, hb2⟩
        have b2 := below_on b1 (b1).size hb2
        go_wp2_with (fail)
        refine (Hli.out _).mono ?_
        rintro e w3 ⟨rfl, hb3⟩
        have b3 := below_on b2 (b2).size hb3
        go_wp2_with (fail)
        refine (Ht3.out _).mono ?_
        rintro e w4 ⟨rfl, hb4⟩
        have b4 := below_on b3 (b3).size hb4
        go_wp2
        go_ret
        exact ⟨rfl, b4⟩
end Go.Proofs.Ythgekjkgfccnaaa

namespace Go.Proofs.Ythgekjkgfccnaaa
open Go.RowKit Num

theorem OwnLs.n32 {B : Nat} {w : World} {v : Value} {n : Nat} (h : OwnLs B w v (dig B32 n)) (hl : (dig B32 n).length ≤ 1000000000000) : N32 w v n := (h.limbs hl).is
theorem refMul_s (a b : Value) (m n : Nat) (w : World) (ha : N32 w a m) (hb : N32 w b n) (hm : Sml m) (hn : Sml n) (hp : Sml (m * n)) : Calls Try.prog 57 #[a, b] w (N32Post w (m * n)) :=
  (refMul_call a b m n w ha hb (by have := hm.len; omega) (by have := hn.len; omega)).mono fun _ _ ⟨v, e, hv, hb⟩ => ⟨v, e, hv.n32 (by have := hp.len; omega), hb⟩
theorem refOf_s (n : Nat) (w : World) (hn : n < 18446744073709551616) : Calls Try.prog 81 #[.int .u64 (n : Int)] w (N32Post w n) :=
  (refOf_any n (by unfold B64; exact hn) w).mono fun _ _ ⟨v, e, hv, hb⟩ => ⟨v, e, hv.n32 (by have := (sml_of (n := n) (k := 18446744073709551616) hn (by decide)).len; omega), hb⟩
theorem N32Post.keep {w : World} {v : Value} {n : Nat} (h : N32 w v n) {w' : World} (hb : Below w.heap.size w w') : N32 w' v n := IsNum.keep h hb

set_option maxHeartbeats 1000000 in
set_option maxRecDepth 100000 in
theorem refProduct_any (A : Option Addr) (cp L : Nat) (l : List Nat) (w : World) (hA : Ints w A (numI l)) (hL : L = l.length) (hl : l.length ≤ 100) (h1 : ∀ x ∈ l, 1 ≤ x) (hx : ∀ x ∈ l, x < 9223372036854775808) (hs0 : Sml (prodN l)) :
    Calls Try.prog 56 #[.slice A L cp] w (N32Post w (prodN l)) := by
  have hs : ∀ k, k ≤ l.length → Sml (prodN (l.take k)) := fun k _ => hs0.le (prodN_take_le h1 k)
  have hof := fun n w1 (h : n < 18446744073709551616) => refOf_s n w1 h
  have htm := fun a b m n w1 (h : N32 w1 a m) (k : N32 w1 b n) (h1 : Sml m) (h2 : Sml n) (h3 : Sml (m * n)) => refMul_s a b m n w1 h k h1 h2 h3
  have HO1 := Lib.hid (hof 1 w (by omega))
  have HOF := Lib.hid hof
  have HTM := Lib.hid htm
  have HA := Lib.hid hA
  have HL := Lib.hid hL
  have HS := Lib.hid hs
  have HX := Lib.hid hx
  clear hof htm hA hL hs hx h1 hs0
  go_enter Try.func56, Try.ntmps56
  go_wp2_with (fail)
  refine (HO1.out).mono ?_
  rintro e w1 ⟨v, rfl, hv, hb1⟩
  go_wp2
  go_loopw [3, 4] (fun p t wr => ∃ k : Nat, k ≤ L ∧ t = .int .i64 (k : Int) ∧ N32 wr p (prodN (l.take k)) ∧ Below w.heap.size w wr) (fun _ t _ => L - (intOf t).toNat)
  case atStart => exact ⟨0, Nat.zero_le _, rfl, hv, hb1⟩
  case round =>
    clear hv hb1
    obtain ⟨k, hk, rfl, hp, hbl⟩ := hrel
    by_cases hlt : k < L
    · have hkl : k < l.length := by have := HL.out; omega
      obtain ⟨x, hx⟩ : ∃ x, l[k]? = some x := ⟨l[k], List.getElem?_eq_getElem hkl⟩
      obtain ⟨g, off, y, rfl, hg, hy, hc⟩ := Ints.at_ (HA.out.keep hbl) (i := k) (by simp [numI]; exact hkl)
      have hyx : y = (x : Int) := by rw [numI_at hx] at hy; injection hy with hy; exact hy.symm
      subst hyx
      have hsn := prodN_snoc hx
      have hx1 := HX.out x (List.mem_of_getElem? hx)
      have hs1 := HS.out k (by omega)
      have hs2 := HS.out (k + 1) (by omega)
      rw [hsn] at hs2
      have HSN := Lib.hid hsn
      clear hsn hx hy
      generalize prodN (l.take k) = m at *
      have hcv : IntKind.u64.wrap (x : Int) = (x : Int) := by rw [IntKind.wrap_u64]; omega
      have hi1 : IntKind.i64.wrap ((k : Int) + 1) = (k : Int) + 1 := wrapI (by omega) (by omega)
      have HC := Lib.hid (HOF.out x wr (by omega))
      go_wp2_with (fail)
      refine (HC.out).mono ?_
      rintro e w2 ⟨u, rfl, hu, hb2⟩
      have HD := Lib.hid (HTM.out u3 u m x w2 (N32Post.keep hp hb2) hu hs1 (sml_i64 hx1) hs2)
      go_wp2_with (fail)
      refine (HD.out).mono ?_
      rintro e w3 ⟨u', rfl, hu', hb3⟩
      go_wp2
      go_roundw
      case rel => exact ⟨k + 1, by omega, by go_num, by rw [HSN.out]; exact hu', below_on (below_on hbl hbl.size hb2) (Nat.le_trans hbl.size hb2.size) hb3⟩
      case measure => simp [intOf]; omega
    · obtain rfl : k = L := by omega
      have hp2 : N32 wr u3 (prodN l) := by have := hp; rwa [HL.out, List.take_length] at this
      have HP := Lib.hid hp2
      clear hp hp2
      go_wp2
      go_ret
      exact ⟨_, rfl, HP.out, hbl⟩
set_option maxHeartbeats 1000000 in
set_option maxRecDepth 100000 in
theorem refTen_any (k : Nat) (w : World) (hk : k ≤ 30) : Calls Try.prog 58 #[.int .i64 (k : Int)] w (N32Post w (10 ^ k)) := by
  have hof := refOf_s 10 w (by omega)
  have hpw := fun b w1 (h : N32 w1 b 10) => refPow_any b 10 k w1 h (by have := (sml_i64 (n := 10) (by omega)).len; omega) (by omega) (fun j hj => by have := (pow10_sml (k := j) (by omega)).len; omega)
  have HOF := Lib.hid hof
  have HPW := Lib.hid hpw
  clear hof hpw
  go_enter Try.func58, Try.ntmps58
  go_wp2_with (fail)
  refine (HOF.out).mono ?_
  rintro e w1 ⟨v, rfl, hv, hb1⟩
  have HCC := Lib.hid (HPW.out v w1 hv)
  go_wp2_with (fail)
  refine (HCC.out).mono ?_
  rintro e w2 ⟨u, rfl, hu, hb2⟩
  go_wp2
  go_ret
  exact ⟨_, rfl, hu, below_on hb1 hb1.size hb2⟩
theorem prod2 (a b : Nat) : prodN [a, b] = a * b := by simp [prodN]
set_option maxHeartbeats 2000000 in
set_option maxRecDepth 100000 in
theorem refHolds_any (d s l f sf : Nat) (w : World) (hd : InD d) (hs : InS s) (hl : InL l) (hf : InF f) (hp : InP sf) : Calls Try.prog 36 #[.int .i64 (d : Int), .int .i64 (s : Int), .int .i64 (l : Int), .int .i64 (f : Int), .int .i64 (sf : Int)] w (BoolPost w (holdN d s l f sf)) := by
  have hle := stress_le (c := 400) (by omega) hd hl hf
  have hsm : Sml (prodN [400, d, l, l, f, f]) := sml_of (k := 12000000000000000000000000000000001) (Nat.lt_of_le_of_lt hle (by decide)) (by decide)
  have hpr := refProduct_any (some ⟨w.heap.size, 0, none⟩) 6 6 [400, d, l, l, f, f] _ (ints_new w _) rfl (by simp) (by simp; have := hd.lo; have := hl.lo; have := hf.lo; omega) (by simp; have := hd.hi; have := hl.hi; have := hf.hi; omega) hsm
  have hba := below_new w (.cells (is (numI [400, d, l, l, f, f])).toArray 3)
  have hst := strength_sml hs hp
  have hp2 : Sml (prodN [sf, s]) := by rw [prod2]; exact sml_i64 (by omega)
  have hpr2 := fun w1 => refProduct_any (some ⟨w1.heap.size, 0, none⟩) 2 2 [sf, s] _ (ints_new w1 _) rfl (by simp) (by simp; have := hs.lo; have := hp.lo; omega) (by simp; have := hs.hi; have := hp.hi; omega) hp2
  have hba2 := fun w1 => below_new w1 (.cells (is (numI [sf, s])).toArray 3)
  have htn := fun w1 => refTen_any 20 w1 (by omega)
  have hsm2 : Sml (prodN [sf, s] * 10 ^ 20) := by rw [prod2, Nat.mul_comm]; exact strength_sml2 hst
  have hml := fun a b w1 (h : N32 w1 a (prodN [sf, s])) (k : N32 w1 b (10 ^ 20)) => refMul_s a b _ _ w1 h k hp2 (pow10_sml (by omega)) hsm2
  have hcm := fun a b w1 (h : N32 w1 a (prodN [400, d, l, l, f, f])) (k : N32 w1 b (prodN [sf, s] * 10 ^ 20)) => refCmp_call a b _ _ w1 h k (by have := hsm.len; omega) (by have := hsm2.len; omega)
  have hcl : decide (cmpN (prodN [400, d, l, l, f, f]) (prodN [sf, s] * 10 ^ 20) ≤ 0) = holdN d s l f sf := by rw [cmp_le, prod2, Nat.mul_comm (sf * s)]; rfl
  generalize cmpN (prodN [400, d, l, l, f, f]) (prodN [sf, s] * 10 ^ 20) = c at *
  have Hpr := Lib.hid hpr
  have Hba := Lib.hid hba
  have Hpr2 := Lib.hid hpr2
  have Hba2 := Lib.hid hba2
  have Htn := Lib.hid htn
  have Hml := Lib.hid hml
  have Hcm := Lib.hid hcm
  have Hcl := Lib.hid hcl
  clear hpr hba hpr2 hba2 htn hml hcm hcl hle hsm hsm2 hp2 hst
  go_enter Try.func36, Try.ntmps36
  go_wp2_with (fail)
  refine (Hpr.out).mono ?_
  rintro e w1 ⟨v1, rfl, hv1, hb1⟩
  have b1 := below_on Hba.out Hba.out.size hb1
  go_wp2_with (fail)
  refine (Hpr2.out w1).mono ?_
  rintro e w2 ⟨v2, rfl, hv2, hb2⟩
  have k2 := below_on (Hba2.out w1) (Hba2.out w1).size hb2
  have b2 := below_on b1 b1.size k2
  go_wp2_with (fail)
  refine (Htn.out w2).mono ?_
  rintro e w3 ⟨v3, rfl, hv3, hb3⟩
  have b3 := below_on b2 b2.size hb3
  have HD := Lib.hid (Hml.out v2 v3 w3 (N32Post.keep hv2 hb3) hv3)
  go_wp2_with (fail)
  refine (HD.out).mono ?_
  rintro e w4 ⟨v4, rfl, hv4, hb4⟩
  have b4 := below_on b3 b3.size hb4
  have HE := Lib.hid (Hcm.out v1 v4 w4 (N32Post.keep (N32Post.keep (N32Post.keep hv1 k2) hb3) hb4) hv4)
  go_wp2_with (fail)
  refine (HE.out).mono ?_
  rintro e w5 ⟨rfl, hb5⟩
  go_wp2
  go_ret
  exact ⟨by rw [← Hcl.out]; rfl, below_on b4 b4.size hb5⟩
end Go.Proofs.Ythgekjkgfccnaaa
