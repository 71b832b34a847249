/- slices.Sort of a short slice. -/
import Derived.Test.YtncmfjncdhhjoaaTabM
import Derived.Test.YtncmfjncdhhjoaaLen
import Derived.Test.YtncmfjncdhhjoaaMem
import Derived.BigRegion
namespace Go.Proofs.Ytncmfjncdhhjoaa
open Go.RowKit

/-- The same values, in another order. -/
def Swp (n : Nat) (f f' : Nat → Int) : Prop :=
  (∀ x, (∃ k, k < n ∧ f' k = x) ↔ ∃ k, k < n ∧ f k = x) ∧ ((∀ i j, i < n → j < n → f i = f j → i = j) → ∀ i j, i < n → j < n → f' i = f' j → i = j)
theorem Swp.refl (n : Nat) (f : Nat → Int) : Swp n f f := ⟨fun _ => Iff.rfl, fun h => h⟩
theorem Swp.trans {n : Nat} {f g h : Nat → Int} (a : Swp n f g) (b : Swp n g h) : Swp n f h := ⟨fun x => (b.1 x).trans (a.1 x), fun k => b.2 (a.2 k)⟩
theorem swp_at (f : Nat → Int) (i j k : Nat) : upd (upd f i (f j)) j (f i) k = if k = j then f i else if k = i then f j else f k := by unfold upd; rfl
theorem Swp.swap {n : Nat} (f : Nat → Int) {i j : Nat} (hi : i < n) (hj : j < n) : Swp n f (upd (upd f i (f j)) j (f i)) := by
  constructor
  · intro x
    constructor
    · rintro ⟨k, hk, e⟩
      rw [swp_at] at e
      by_cases h1 : k = j
      · rw [if_pos h1] at e; exact ⟨i, hi, e⟩
      · rw [if_neg h1] at e
        by_cases h2 : k = i
        · rw [if_pos h2] at e; exact ⟨j, hj, e⟩
        · rw [if_neg h2] at e; exact ⟨k, hk, e⟩
    · rintro ⟨k, hk, e⟩
      by_cases h1 : k = j
      · subst h1
        by_cases h2 : i = k
        · exact ⟨k, hk, by rw [swp_at, if_pos rfl, h2]; exact e⟩
        · exact ⟨i, hi, by rw [swp_at, if_neg h2, if_pos rfl]; exact e⟩
      · by_cases h2 : k = i
        · subst h2; exact ⟨j, hj, by rw [swp_at, if_pos rfl]; exact e⟩
        · exact ⟨k, hk, by rw [swp_at, if_neg h1, if_neg h2]; exact e⟩
  · intro hinj a b ha hb e
    rw [swp_at, swp_at] at e
    by_cases a1 : a = j
    · rw [if_pos a1] at e
      by_cases b1 : b = j
      · omega
      · rw [if_neg b1] at e
        by_cases b2 : b = i
        · rw [if_pos b2] at e
          have := hinj i j hi hj e; omega
        · rw [if_neg b2] at e
          have := hinj i b hi hb e; omega
    · rw [if_neg a1] at e
      by_cases b1 : b = j
      · rw [if_pos b1] at e
        by_cases a2 : a = i
        · rw [if_pos a2] at e
          have := hinj j i hj hi e; omega
        · rw [if_neg a2] at e
          have := hinj a i ha hi e; omega
      · rw [if_neg b1] at e
        by_cases a2 : a = i
        · rw [if_pos a2] at e
          by_cases b2 : b = i
          · omega
          · rw [if_neg b2] at e
            have := hinj j b hj hb e; omega
        · rw [if_neg a2] at e
          by_cases b2 : b = i
          · rw [if_pos b2] at e
            have := hinj a j ha hj e; omega
          · rw [if_neg b2] at e; exact hinj a b ha hb e

/-- Sorted before i; sorted before i + 1 but for the place j, which is below all behind it. -/
def Srt (f : Nat → Int) (i : Nat) : Prop := ∀ a b, a ≤ b → b < i → f a ≤ f b
def SrtBut (f : Nat → Int) (i j : Nat) : Prop := (∀ a b, a ≤ b → b ≤ i → a ≠ j → b ≠ j → f a ≤ f b) ∧ ∀ b, j < b → b ≤ i → f j ≤ f b
theorem srt_in {f : Nat → Int} {i : Nat} (h : Srt f i) : SrtBut f i i := ⟨fun a b h1 h2 h3 h4 => h a b h1 (by omega), fun b h1 h2 => by omega⟩
theorem srt_out {f : Nat → Int} {i j : Nat} (h : SrtBut f i j) (hj : j = 0 ∨ f (j - 1) ≤ f j) (hji : j ≤ i) : Srt f (i + 1) := by
  intro a b h1 h2
  by_cases ea : a = j
  · by_cases eb : b = j
    · rw [ea, eb]; exact Int.le_refl _
    · subst ea; exact h.2 b (by omega) (by omega)
  · by_cases eb : b = j
    · subst eb
      have h3 : f a ≤ f (b - 1) := by
        by_cases e : a = b - 1
        · rw [← e]; exact Int.le_refl _
        · exact h.1 a (b - 1) (by omega) (by omega) ea (by omega)
      rcases hj with hj | hj
      · omega
      · omega
    · exact h.1 a b h1 (by omega) ea eb
theorem srt_step {f : Nat → Int} {i j : Nat} (h : SrtBut f i j) (hj : 0 < j) (hji : j ≤ i) (hlt : f j < f (j - 1)) : SrtBut (upd (upd f j (f (j - 1))) (j - 1) (f j)) i (j - 1) := by
  constructor
  · intro a b h1 h2 h3 h4
    rw [swp_at, swp_at, if_neg h3, if_neg h4]
    by_cases a1 : a = j
    · rw [if_pos a1]
      by_cases b1 : b = j
      · rw [if_pos b1]; exact Int.le_refl _
      · rw [if_neg b1]; exact h.1 (j - 1) b (by omega) h2 (by omega) b1
    · rw [if_neg a1]
      by_cases b1 : b = j
      · rw [if_pos b1]; exact h.1 a (j - 1) (by omega) (by omega) a1 (by omega)
      · rw [if_neg b1]; exact h.1 a b h1 h2 a1 b1
  · intro b h1 h2
    rw [swp_at, swp_at, if_pos rfl, if_neg (by omega)]
    by_cases b1 : b = j
    · rw [if_pos b1]; omega
    · rw [if_neg b1]; exact h.2 b (by omega) h2

theorem srt_one (f : Nat → Int) : Srt f 1 := fun a b h1 h2 => by
  have e : a = b := by omega
  rw [e]; exact Int.le_refl _

theorem less_any (x y : Int) (w : World) : Calls Try.prog 89 #[.int .i64 x, .int .i64 y] w fun e w' => e = .returned (.bool (decide (x < y))) ∧ w = w' := by
  have h1 : (x != x) = false := by simp
  have hn : ∀ W, Calls Try.prog 101 #[.int .i64 x] W fun e w' => e = .returned (.bool false) ∧ W = w' := by
    intro W
    go_enter Try.func101, Try.ntmps101
    go_wp2
    go_ret
    exact ⟨rfl, rfl⟩
  have HN := Lib.hid hn
  clear hn
  go_enter Try.func89, Try.ntmps89
  go_wp2_with (go_at_call 101; refine (HN.out _).mono ?_; rintro e w1 ⟨rfl, rfl⟩)
  go_ret
  exact ⟨rfl, rfl⟩

theorem Hd.int {T : TypeId} {w : World} {g cap n k : Nat} {f : Nat → Int} (h : Hd T w g cap (fl f n)) (hk : k < n) : w.cell? ⟨g, k, none⟩ = some (.int .i64 (f k)) := h.cell (fl_at hk)
theorem Hd.setI {T : TypeId} {w : World} {g cap n k : Nat} {f : Nat → Int} (h : Hd T w g cap (fl f n)) (hk : k < n) (x : Int) : Hd T (w.setCell ⟨g, k, none⟩ (.int .i64 x)) g cap (fl (upd f k x) n) := by
  have := h.set (i := k) (by rw [fl_len]; exact hk) (.int .i64 x)
  rwa [fl_set] at this

set_option maxHeartbeats 4000000 in
set_option maxRecDepth 100000 in
theorem insSort_any (B g cap n c : Nat) (f : Nat → Int) (w : World) (hH : Hd 3 w g cap (fl f n)) (hn : 1 ≤ n ∧ n ≤ 64) (hB : B ≤ g) :
    Calls Try.prog 83 #[.slice (some ⟨g, 0, none⟩) n c, .int .i64 0, .int .i64 (n : Int)] w fun e w' => (∃ x, e = .returned x) ∧
      ∃ f', Hd 3 w' g cap (fl f' n) ∧ Swp n f f' ∧ Srt f' n ∧ Below B w w' := by
  have HH := Lib.hid hH
  clear hH
  go_enter Try.func83, Try.ntmps83
  go_wp2_with (fail)
  go_loopw [6, 7] (fun t _ wr => ∃ (i : Nat) (f1 : Nat → Int), 1 ≤ i ∧ i ≤ n ∧ t = .int .i64 (i : Int) ∧ Hd 3 wr g cap (fl f1 n) ∧ Hid (Swp n f f1) ∧ Hid (Srt f1 i) ∧ Below B w wr) (fun t _ _ => n - (intOf t).toNat)
  case atStart => exact ⟨1, f, Nat.le_refl _, by omega, rfl, HH.out, Lib.hid (Swp.refl n f), Lib.hid (srt_one f), Below.refl _ _⟩
  case round =>
    clear HH
    obtain ⟨i, f1, hi1, hi, rfl, hH, HW, HS, hl⟩ := hrel
    by_cases hlt : i < n
    · have HSB := Lib.hid (srt_in HS.out)
      clear HS
      go_wp2_with (fail)
      go_loopw [7] (fun t wr => ∃ (j : Nat) (f2 : Nat → Int), j ≤ i ∧ t = .int .i64 (j : Int) ∧ Hd 3 wr g cap (fl f2 n) ∧ Hid (Swp n f f2) ∧ Hid (SrtBut f2 i j) ∧ Below B w wr) (fun t _ => (intOf t).toNat)
      case atStart => exact ⟨i, f1, Nat.le_refl _, rfl, hH, HW, HSB, hl⟩
      case round =>
        clear hH HW HSB hl
        obtain ⟨j, f2, hji, rfl, hH, HW, HSB, hl⟩ := hrel
        by_cases hj0 : j = 0
        · subst hj0
          have HN := Lib.hid (srt_out HSB.out (.inl rfl) hji)
          go_wp2_with (fail)
          go_quiet (fail)
          go_wp2_with (fail)
          go_roundw
          case rel => exact ⟨i + 1, f2, by omega, by omega, by go_num, (by obtain ⟨r, h1, h2⟩ := hH; exact ⟨r, h1, h2.drewN _⟩), HW, HN, below_drewN hl _⟩
          case measure => simp [intOf]; omega
        · have hjn : j < n := by omega
          have c1 := hH.int hjn
          have c2 := hH.int (show j - 1 < n by omega)
          have hd : decide ((0 : Int) < (j : Int)) = true := by simp; omega
          have hj1 : IntKind.i64.wrap ((j : Int) - 1) = ((j - 1 : Nat) : Int) := by rw [wrapI (by omega) (by omega)]; omega
          have hb1 : (j : Int) < (n : Int) := by omega
          have hb2 : ((j - 1 : Nat) : Int) < (n : Int) := by omega
          have hb3 : j - 1 < n := by omega
          have hz : (0 : Int) < (j : Int) := by omega
          have hd0 : decide (0 < j) = true := by simp; omega
          have hla := fun W => less_any (f2 j) (f2 (j - 1)) W
          have hst := fun h => srt_step HSB.out (by omega) hji h
          have hot := fun h => srt_out HSB.out (.inr h) hji
          have hsw := HW.out.trans (Swp.swap f2 hjn (show j - 1 < n by omega))
          have h2 := fun W (hW : Hd 3 W g cap (fl f2 n)) => (hW.setI hjn (f2 (j - 1))).setI (show j - 1 < n by omega) (f2 j)
          have fz := hH.frozen
          generalize hx : f2 j = x at *
          generalize hy : f2 (j - 1) = y at *
          have HSW := Lib.hid hsw
          have H2 := Lib.hid h2
          have HLA := Lib.hid hla
          clear hx hy hla h2 hsw
          by_cases hxy : x < y
          · have hdd : decide (x < y) = true := by simpa using hxy
            have HST := Lib.hid (hst hxy)
            clear hst hot hxy
            rw [hdd] at HLA
            go_wp2_with (fail)
            go_quiet ((go_at_call 89; exact ((HLA.out _).mono fun _ _ ⟨he, hm⟩ => ⟨he, _, hm.symm⟩)))
            go_wp2_with (fail)
            have hH1 : Hd 3 (wr.drewN nq) g cap (fl f2 n) := by obtain ⟨r, q1, q2⟩ := hH; exact ⟨r, q1, q2.drewN _⟩
            have hl1 : Below B w (wr.drewN nq) := below_drewN hl _
            have c3 : (wr.drewN nq).cell? ⟨g, j, none⟩ = some (.int .i64 x) := c1
            have c4 : (wr.drewN nq).cell? ⟨g, j - 1, none⟩ = some (.int .i64 y) := c2
            have f3 := hH1.frozen
            have hne : ¬ j - 1 = j := by omega
            have hne2 : ¬ j = j - 1 := by omega
            clear c1 c2 hH fz hl
            generalize wr.drewN nq = W at *
            go_region
            have hH2 := H2.out W hH1
            have hH3 : Hd 3 ((W.setCell ⟨g, j, none⟩ (.int .i64 y)).setCell ⟨g, j - 1, none⟩ (.int .i64 x)).drew g cap (fl (upd (upd f2 j y) (j - 1) x) n) := by obtain ⟨r, q1, q2⟩ := hH2; exact ⟨r, q1, q2⟩
            have hl3 : Below B w ((W.setCell ⟨g, j, none⟩ (.int .i64 y)).setCell ⟨g, j - 1, none⟩ (.int .i64 x)).drew := (below_set (below_set hl1 hB _) hB _).drew
            have HH3 := Lib.hid hH3
            clear hH2 hH3 hH1 c3 c4 f3
            go_wp2_with (fail)
            go_roundw
            case rel => exact ⟨j - 1, _, by omega, by first | rfl | go_num | (congr 1), HH3.out, HSW, HST, hl3⟩
            case measure => simp [intOf]; omega
          · have hdd : decide (x < y) = false := by simpa using hxy
            have HOT := Lib.hid (hot (by omega))
            clear hst hot hxy
            rw [hdd] at HLA
            go_wp2_with (fail)
            go_quiet ((go_at_call 89; exact ((HLA.out _).mono fun _ _ ⟨he, hm⟩ => ⟨he, _, hm.symm⟩)))
            go_wp2_with (fail)
            go_roundw
            case rel => exact ⟨i + 1, f2, by omega, by omega, by go_num, (by obtain ⟨r, h1, h2⟩ := hH; exact ⟨r, h1, h2.drewN _⟩), HW, HOT, below_drewN hl _⟩
            case measure => simp [intOf]; omega
    · obtain rfl : i = n := by omega
      go_wp2
      refine bodyPost_end (results_none rfl _ _ _) rfl ?_
      exact ⟨⟨_, rfl⟩, f1, hH, HW.out, HS.out, hl⟩

end Go.Proofs.Ytncmfjncdhhjoaa
