/- Part of the proof of NatFits: FitsW. -/
import Derived.Test.YtaegkhdkhgemmaaPartI
import Derived.Deep.RegionHeld3
namespace Go.Proofs.Ytaegkhdkhgemmaa
open Go.RowKit Num

set_option maxHeartbeats 1000000 in
set_option maxRecDepth 100000 in
theorem fits_bad (a b : Value) (n k : Int) (xs ys : List Nat) (w : World) (ha : Limbs w a xs) (hb : Limbs w b ys) (h0 : chk2 xs ys ≠ 0) : Calls Try.prog 68 #[a, .int .i64 n, b, .int .i64 k] w (Two w (.int .i64 0) (.int .i64 (chk2 xs ys))) := by
  have hc := checkAll_any w.heap.size 2 2 _ _ (nats2 ha hb) rfl (by omega)
  rw [chkAll2] at hc
  generalize chk2 xs ys = r at *
  have hbA := below_new w (.cells #[a, b] 23)
  have hq : (r != 0) = true := by simp [h0]
  have HC := Lib.hid hc
  have H0 := Lib.hid h0
  obtain ⟨A, c, rfl, _⟩ := ha
  obtain ⟨A', c', rfl, _⟩ := hb
  clear hc h0
  generalize xs.length = L at *
  generalize ys.length = L' at *
  go_enter Try.func68, Try.ntmps68
  go_wp2_with (go_at_call 75; refine HC.out.mono ?_; rintro e w1 ⟨rfl, rfl⟩)
  go_ret2
  exact ⟨rfl, hbA⟩

set_option maxHeartbeats 1000000 in
set_option maxRecDepth 100000 in
theorem fits_neg1 (a b : Value) (n k : Int) (x y : Nat) (w : World) (ha : N32 w a x) (hb : N32 w b y) (hx : (dig B32 x).length ≤ 262144) (hy : (dig B32 y).length ≤ 262144) (hn : n < 0) : Calls Try.prog 68 #[a, .int .i64 n, b, .int .i64 k] w (Two w (.int .i64 0) (.int .i64 1)) := by
  have hc := checkAll_any w.heap.size 2 2 _ _ (nats2 (Limbs.num ha (by omega)) (Limbs.num hb (by omega))) rfl (by omega)
  rw [chkAll2, chk2, if_pos (chk_dig hx), chk_dig hy] at hc
  have hbA := below_new w (.cells #[a, b] 23)
  have HC := Lib.hid hc
  obtain ⟨A, c, rfl, _⟩ := ha
  obtain ⟨A', c', rfl, _⟩ := hb
  clear hc
  generalize (dig B32 x).length = L at *
  generalize (dig B32 y).length = L' at *
  go_enter Try.func68, Try.ntmps68
  go_wp2_with (go_at_call 75; refine HC.out.mono ?_; rintro e w1 ⟨rfl, rfl⟩)
  go_ret2
  exact ⟨rfl, hbA⟩

set_option maxHeartbeats 1000000 in
set_option maxRecDepth 100000 in
theorem fits_neg2 (a b : Value) (n k : Int) (x y : Nat) (w : World) (ha : N32 w a x) (hb : N32 w b y) (hx : (dig B32 x).length ≤ 262144) (hy : (dig B32 y).length ≤ 262144) (hn : ¬ n < 0) (hk : k < 0) : Calls Try.prog 68 #[a, .int .i64 n, b, .int .i64 k] w (Two w (.int .i64 0) (.int .i64 1)) := by
  have hc := checkAll_any w.heap.size 2 2 _ _ (nats2 (Limbs.num ha (by omega)) (Limbs.num hb (by omega))) rfl (by omega)
  rw [chkAll2, chk2, if_pos (chk_dig hx), chk_dig hy] at hc
  have hbA := below_new w (.cells #[a, b] 23)
  have HC := Lib.hid hc
  obtain ⟨A, c, rfl, _⟩ := ha
  obtain ⟨A', c', rfl, _⟩ := hb
  clear hc
  generalize (dig B32 x).length = L at *
  generalize (dig B32 y).length = L' at *
  go_enter Try.func68, Try.ntmps68
  go_wp2_with (go_at_call 75; refine HC.out.mono ?_; rintro e w1 ⟨rfl, rfl⟩)
  go_ret2
  exact ⟨rfl, hbA⟩

set_option maxHeartbeats 2000000 in
set_option maxRecDepth 100000 in
theorem natfits_bad_le_le (A A1 : Option Addr) (c c1 L L1 : Nat) (n k : Int) (xs ys : List Nat) (w : World) (hA : Nums .u32 w A xs) (hA1 : Nums .u32 w A1 ys) (hL : L = xs.length) (hL1 : L1 = ys.length) (hc : L ≤ c) (hc1 : L1 ≤ c1) (hnil : A = none → c = 0) (hnil1 : A1 = none → c1 = 0) (hbad : chk2 (xs.take 4) (ys.take 4) ≠ 0) (hn : n ≤ 40) (hk : k ≤ 40) : Calls Try.prog 14 #[.agg #[.slice A L c, .int .i64 n], .agg #[.slice A1 L1 c1, .int .i64 k]] w (LivesPost w) := by
  have hcut : ∀ w', Below w.heap.size w w' → Calls Try.prog 26 #[.slice A L c, .int .i64 4] w' (LsPost w' (xs.take 4)) := fun w' h => cut_any A c L 4 xs w' (hA.keep h) hL hc hnil (by omega)
  have hcut1 : ∀ w', Below w.heap.size w w' → Calls Try.prog 26 #[.slice A1 L1 c1, .int .i64 4] w' (LsPost w' (ys.take 4)) := fun w' h => cut_any A1 c1 L1 4 ys w' (hA1.keep h) hL1 hc1 hnil1 (by omega)
  have l1 : (xs.take 4).length ≤ 4 := by rw [List.length_take]; omega
  have l2 : (ys.take 4).length ≤ 4 := by rw [List.length_take]; omega
  generalize xs.take 4 = us at *
  generalize ys.take 4 = vs at *
  have hlu : ∀ B w' a, OwnLs B w' a us → Limbs w' a us := fun B w' a h => h.limbs (by omega)
  have hlv : ∀ B w' a, OwnLs B w' a vs → Limbs w' a vs := fun B w' a h => h.limbs (by omega)
  have h68 := fun a b n k w h j => fits_bad a b n k us vs w h j hbad
  have h40 := fun a b w h j => both_any a b us vs w h j
  generalize chk2 us vs = r at *
  have hq : (r == 0) = false := by simp [hbad]
  have hq1 : (r != 0) = true := by simp [hbad]
  have hq2 : (r == r) = true := by simp
  have b0 : Below w.heap.size w ((w.alloc (.cells #[.slice A L c, .int .i64 n] 73)).alloc (.cells #[.slice A1 L1 c1, .int .i64 k] 73)) := ((Below.refl _ _).alloc (Nat.le_refl _) _).alloc (by simp) _
  have e0 : ((w.alloc (.cells #[.slice A L c, .int .i64 n] 73)).alloc (.cells #[.slice A1 L1 c1, .int .i64 k] 73)).cell? ⟨w.heap.size, 0, none⟩ = some (.slice A L c) := by simp
  have e1 : ((w.alloc (.cells #[.slice A L c, .int .i64 n] 73)).alloc (.cells #[.slice A1 L1 c1, .int .i64 k] 73)).cell? ⟨w.heap.size, 1, none⟩ = some (.int .i64 n) := by simp
  have e2 : ((w.alloc (.cells #[.slice A L c, .int .i64 n] 73)).alloc (.cells #[.slice A1 L1 c1, .int .i64 k] 73)).cell? ⟨w.heap.size + 1, 0, none⟩ = some (.slice A1 L1 c1) := by simp
  have e3 : ((w.alloc (.cells #[.slice A L c, .int .i64 n] 73)).alloc (.cells #[.slice A1 L1 c1, .int .i64 k] 73)).cell? ⟨w.heap.size + 1, 1, none⟩ = some (.int .i64 k) := by simp
  have z0 : w.heap.size + 2 ≤ ((w.alloc (.cells #[.slice A L c, .int .i64 n] 73)).alloc (.cells #[.slice A1 L1 c1, .int .i64 k] 73)).heap.size := by simp
  have HCUT := Lib.hid hcut
  have HCUT1 := Lib.hid hcut1
  have HLU := Lib.hid hlu
  have HLV := Lib.hid hlv
  have H68 := Lib.hid h68
  have H40 := Lib.hid h40
  have HBAD := Lib.hid hbad
  clear hcut hcut1 hlu hlv h68 h40 hbad
  clear hA hA1 hL hL1 hnil hnil1 l1 l2
  go_enter Try.func14, Try.ntmps14
  go_wp2_with (fail)
  generalize ((w.alloc (.cells #[.slice A L c, .int .i64 n] 73)).alloc (.cells #[.slice A1 L1 c1, .int .i64 k] 73)) = W at *
  go_region_held3 (fun w' => w'.cell? ⟨w.heap.size, 0, none⟩ = some (.slice A L c) ∧ w'.cell? ⟨w.heap.size + 1, 0, none⟩ = some (.slice A1 L1 c1))
    (first
      | go_keep
      | exact ⟨e0, e2⟩
      | exact ⟨(hbx.cell (p := ⟨w.heap.size, 0, none⟩) (by simp; omega)).trans e0, (hbx.cell (p := ⟨w.heap.size + 1, 0, none⟩) (by simp; omega)).trans e2⟩
      | exact ⟨(hby.cell (p := ⟨w.heap.size, 0, none⟩) (by have := hbx.size; simp at this ⊢; omega)).trans ((hbx.cell (p := ⟨w.heap.size, 0, none⟩) (by simp; omega)).trans e0), (hby.cell (p := ⟨w.heap.size + 1, 0, none⟩) (by have := hbx.size; simp at this ⊢; omega)).trans ((hbx.cell (p := ⟨w.heap.size + 1, 0, none⟩) (by simp; omega)).trans e2)⟩)
    ((first
      | (go_at_call 26; (with_reducible refine (HCUT.out _ ?_).mono ?_); exact below_drewN b0 1; rintro e w1 ⟨va, rfl, hva, hbx⟩)
      | (go_at_call 26; (with_reducible refine (HCUT1.out _ ?_).mono ?_); exact below_at (below_drewN b0 1) (Nat.le_refl _) hbx; rintro e w2 ⟨vb, rfl, hvb, hby⟩)))
  have f1 := (hby.cell (p := ⟨w.heap.size, 1, none⟩) (by have := hbx.size; simp at this ⊢; omega)).trans ((hbx.cell (p := ⟨w.heap.size, 1, none⟩) (by simp; omega)).trans e1)
  have f3 := (hby.cell (p := ⟨w.heap.size + 1, 1, none⟩) (by have := hbx.size; simp at this ⊢; omega)).trans ((hbx.cell (p := ⟨w.heap.size + 1, 1, none⟩) (by simp; omega)).trans e3)
  have b1 := below_at (below_drewN b0 1) (Nat.le_refl _) hbx
  have b2 := below_at b1 (Nat.le_refl _) hby
  have ka := (HLU.out _ _ _ hva).keep hby
  have kb := HLV.out _ _ _ hvb
  clear e0 e1 e2 e3 b0 z0
  go_wp2
  go_quiet (fail)
  go_wp2_with (fail)
  refine (H68.out _ _ _ _ _ (ka.keep (below_drewN (Below.refl _ _) _)) (kb.keep (below_drewN (Below.refl _ _) _))).mono ?_
  rintro e w11 ⟨rfl, hb11⟩
  have b11 := below_at (below_drewN b2 _) (Nat.le_refl _) hb11
  have ka_11 := (ka.keep (below_drewN (Below.refl _ _) _)).keep hb11
  have kb_11 := (kb.keep (below_drewN (Below.refl _ _) _)).keep hb11
  go_wp2_with (fail)
  refine (H40.out _ _ _ ka_11 kb_11).mono ?_
  rintro e w12 ⟨rfl, rfl⟩
  go_wp2_with (fail)
  refine (lives_any _).mono ?_
  rintro e w13 ⟨rfl, hb13⟩
  have b13 := below_at b11 (Nat.le_refl _) hb13
  go_wp2
  go_ret
  exact ⟨rfl, b13⟩

set_option maxHeartbeats 2000000 in
set_option maxRecDepth 100000 in
theorem natfits_bad_le_gt (A A1 : Option Addr) (c c1 L L1 : Nat) (n k : Int) (xs ys : List Nat) (w : World) (hA : Nums .u32 w A xs) (hA1 : Nums .u32 w A1 ys) (hL : L = xs.length) (hL1 : L1 = ys.length) (hc : L ≤ c) (hc1 : L1 ≤ c1) (hnil : A = none → c = 0) (hnil1 : A1 = none → c1 = 0) (hbad : chk2 (xs.take 4) (ys.take 4) ≠ 0) (hn : n ≤ 40) (hk : 40 < k) : Calls Try.prog 14 #[.agg #[.slice A L c, .int .i64 n], .agg #[.slice A1 L1 c1, .int .i64 k]] w (LivesPost w) := by
  have hcut : ∀ w', Below w.heap.size w w' → Calls Try.prog 26 #[.slice A L c, .int .i64 4] w' (LsPost w' (xs.take 4)) := fun w' h => cut_any A c L 4 xs w' (hA.keep h) hL hc hnil (by omega)
  have hcut1 : ∀ w', Below w.heap.size w w' → Calls Try.prog 26 #[.slice A1 L1 c1, .int .i64 4] w' (LsPost w' (ys.take 4)) := fun w' h => cut_any A1 c1 L1 4 ys w' (hA1.keep h) hL1 hc1 hnil1 (by omega)
  have l1 : (xs.take 4).length ≤ 4 := by rw [List.length_take]; omega
  have l2 : (ys.take 4).length ≤ 4 := by rw [List.length_take]; omega
  generalize xs.take 4 = us at *
  generalize ys.take 4 = vs at *
  have hlu : ∀ B w' a, OwnLs B w' a us → Limbs w' a us := fun B w' a h => h.limbs (by omega)
  have hlv : ∀ B w' a, OwnLs B w' a vs → Limbs w' a vs := fun B w' a h => h.limbs (by omega)
  have h68 := fun a b n k w h j => fits_bad a b n k us vs w h j hbad
  have h40 := fun a b w h j => both_any a b us vs w h j
  generalize chk2 us vs = r at *
  have hq : (r == 0) = false := by simp [hbad]
  have hq1 : (r != 0) = true := by simp [hbad]
  have hq2 : (r == r) = true := by simp
  obtain ⟨kq, hkq⟩ : ∃ q, k % 41 = q := ⟨_, rfl⟩
  have tk : k.tmod 41 = kq := by rw [Int.tmod_eq_emod_of_nonneg (by omega)]; exact hkq
  have b0 : Below w.heap.size w ((w.alloc (.cells #[.slice A L c, .int .i64 n] 73)).alloc (.cells #[.slice A1 L1 c1, .int .i64 k] 73)) := ((Below.refl _ _).alloc (Nat.le_refl _) _).alloc (by simp) _
  have e0 : ((w.alloc (.cells #[.slice A L c, .int .i64 n] 73)).alloc (.cells #[.slice A1 L1 c1, .int .i64 k] 73)).cell? ⟨w.heap.size, 0, none⟩ = some (.slice A L c) := by simp
  have e1 : ((w.alloc (.cells #[.slice A L c, .int .i64 n] 73)).alloc (.cells #[.slice A1 L1 c1, .int .i64 k] 73)).cell? ⟨w.heap.size, 1, none⟩ = some (.int .i64 n) := by simp
  have e2 : ((w.alloc (.cells #[.slice A L c, .int .i64 n] 73)).alloc (.cells #[.slice A1 L1 c1, .int .i64 k] 73)).cell? ⟨w.heap.size + 1, 0, none⟩ = some (.slice A1 L1 c1) := by simp
  have e3 : ((w.alloc (.cells #[.slice A L c, .int .i64 n] 73)).alloc (.cells #[.slice A1 L1 c1, .int .i64 k] 73)).cell? ⟨w.heap.size + 1, 1, none⟩ = some (.int .i64 k) := by simp
  have z0 : w.heap.size + 2 ≤ ((w.alloc (.cells #[.slice A L c, .int .i64 n] 73)).alloc (.cells #[.slice A1 L1 c1, .int .i64 k] 73)).heap.size := by simp
  have HCUT := Lib.hid hcut
  have HCUT1 := Lib.hid hcut1
  have HLU := Lib.hid hlu
  have HLV := Lib.hid hlv
  have H68 := Lib.hid h68
  have H40 := Lib.hid h40
  have HBAD := Lib.hid hbad
  clear hcut hcut1 hlu hlv h68 h40 hbad
  clear hA hA1 hL hL1 hnil hnil1 l1 l2
  go_enter Try.func14, Try.ntmps14
  go_wp2_with (fail)
  generalize ((w.alloc (.cells #[.slice A L c, .int .i64 n] 73)).alloc (.cells #[.slice A1 L1 c1, .int .i64 k] 73)) = W at *
  go_region_held3 (fun w' => w'.cell? ⟨w.heap.size, 0, none⟩ = some (.slice A L c) ∧ w'.cell? ⟨w.heap.size + 1, 0, none⟩ = some (.slice A1 L1 c1))
    (first
      | go_keep
      | exact ⟨e0, e2⟩
      | exact ⟨(hbx.cell (p := ⟨w.heap.size, 0, none⟩) (by simp; omega)).trans e0, (hbx.cell (p := ⟨w.heap.size + 1, 0, none⟩) (by simp; omega)).trans e2⟩
      | exact ⟨(hby.cell (p := ⟨w.heap.size, 0, none⟩) (by have := hbx.size; simp at this ⊢; omega)).trans ((hbx.cell (p := ⟨w.heap.size, 0, none⟩) (by simp; omega)).trans e0), (hby.cell (p := ⟨w.heap.size + 1, 0, none⟩) (by have := hbx.size; simp at this ⊢; omega)).trans ((hbx.cell (p := ⟨w.heap.size + 1, 0, none⟩) (by simp; omega)).trans e2)⟩)
    ((first
      | (go_at_call 26; (with_reducible refine (HCUT.out _ ?_).mono ?_); exact below_drewN b0 1; rintro e w1 ⟨va, rfl, hva, hbx⟩)
      | (go_at_call 26; (with_reducible refine (HCUT1.out _ ?_).mono ?_); exact below_at (below_drewN b0 1) (Nat.le_refl _) hbx; rintro e w2 ⟨vb, rfl, hvb, hby⟩)))
  have f1 := (hby.cell (p := ⟨w.heap.size, 1, none⟩) (by have := hbx.size; simp at this ⊢; omega)).trans ((hbx.cell (p := ⟨w.heap.size, 1, none⟩) (by simp; omega)).trans e1)
  have f3 := (hby.cell (p := ⟨w.heap.size + 1, 1, none⟩) (by have := hbx.size; simp at this ⊢; omega)).trans ((hbx.cell (p := ⟨w.heap.size + 1, 1, none⟩) (by simp; omega)).trans e3)
  have b1 := below_at (below_drewN b0 1) (Nat.le_refl _) hbx
  have b2 := below_at b1 (Nat.le_refl _) hby
  have ka := (HLU.out _ _ _ hva).keep hby
  have kb := HLV.out _ _ _ hvb
  clear e0 e1 e2 e3 b0 z0
  go_wp2
  go_quiet (fail)
  go_wp2_with (fail)
  refine (H68.out _ _ _ _ _ (ka.keep (below_drewN (Below.refl _ _) _)) (kb.keep (below_drewN (Below.refl _ _) _))).mono ?_
  rintro e w11 ⟨rfl, hb11⟩
  have b11 := below_at (below_drewN b2 _) (Nat.le_refl _) hb11
  have ka_11 := (ka.keep (below_drewN (Below.refl _ _) _)).keep hb11
  have kb_11 := (kb.keep (below_drewN (Below.refl _ _) _)).keep hb11
  go_wp2_with (fail)
  refine (H40.out _ _ _ ka_11 kb_11).mono ?_
  rintro e w12 ⟨rfl, rfl⟩
  go_wp2_with (fail)
  refine (lives_any _).mono ?_
  rintro e w13 ⟨rfl, hb13⟩
  have b13 := below_at b11 (Nat.le_refl _) hb13
  go_wp2
  go_ret
  exact ⟨rfl, b13⟩

set_option maxHeartbeats 2000000 in
set_option maxRecDepth 100000 in
theorem natfits_bad_gt_le (A A1 : Option Addr) (c c1 L L1 : Nat) (n k : Int) (xs ys : List Nat) (w : World) (hA : Nums .u32 w A xs) (hA1 : Nums .u32 w A1 ys) (hL : L = xs.length) (hL1 : L1 = ys.length) (hc : L ≤ c) (hc1 : L1 ≤ c1) (hnil : A = none → c = 0) (hnil1 : A1 = none → c1 = 0) (hbad : chk2 (xs.take 4) (ys.take 4) ≠ 0) (hn : 40 < n) (hk : k ≤ 40) : Calls Try.prog 14 #[.agg #[.slice A L c, .int .i64 n], .agg #[.slice A1 L1 c1, .int .i64 k]] w (LivesPost w) := by
  have hcut : ∀ w', Below w.heap.size w w' → Calls Try.prog 26 #[.slice A L c, .int .i64 4] w' (LsPost w' (xs.take 4)) := fun w' h => cut_any A c L 4 xs w' (hA.keep h) hL hc hnil (by omega)
  have hcut1 : ∀ w', Below w.heap.size w w' → Calls Try.prog 26 #[.slice A1 L1 c1, .int .i64 4] w' (LsPost w' (ys.take 4)) := fun w' h => cut_any A1 c1 L1 4 ys w' (hA1.keep h) hL1 hc1 hnil1 (by omega)
  have l1 : (xs.take 4).length ≤ 4 := by rw [List.length_take]; omega
  have l2 : (ys.take 4).length ≤ 4 := by rw [List.length_take]; omega
  generalize xs.take 4 = us at *
  generalize ys.take 4 = vs at *
  have hlu : ∀ B w' a, OwnLs B w' a us → Limbs w' a us := fun B w' a h => h.limbs (by omega)
  have hlv : ∀ B w' a, OwnLs B w' a vs → Limbs w' a vs := fun B w' a h => h.limbs (by omega)
  have h68 := fun a b n k w h j => fits_bad a b n k us vs w h j hbad
  have h40 := fun a b w h j => both_any a b us vs w h j
  generalize chk2 us vs = r at *
  have hq : (r == 0) = false := by simp [hbad]
  have hq1 : (r != 0) = true := by simp [hbad]
  have hq2 : (r == r) = true := by simp
  obtain ⟨nq, hnq⟩ : ∃ q, n % 41 = q := ⟨_, rfl⟩
  have tn : n.tmod 41 = nq := by rw [Int.tmod_eq_emod_of_nonneg (by omega)]; exact hnq
  have b0 : Below w.heap.size w ((w.alloc (.cells #[.slice A L c, .int .i64 n] 73)).alloc (.cells #[.slice A1 L1 c1, .int .i64 k] 73)) := ((Below.refl _ _).alloc (Nat.le_refl _) _).alloc (by simp) _
  have e0 : ((w.alloc (.cells #[.slice A L c, .int .i64 n] 73)).alloc (.cells #[.slice A1 L1 c1, .int .i64 k] 73)).cell? ⟨w.heap.size, 0, none⟩ = some (.slice A L c) := by simp
  have e1 : ((w.alloc (.cells #[.slice A L c, .int .i64 n] 73)).alloc (.cells #[.slice A1 L1 c1, .int .i64 k] 73)).cell? ⟨w.heap.size, 1, none⟩ = some (.int .i64 n) := by simp
  have e2 : ((w.alloc (.cells #[.slice A L c, .int .i64 n] 73)).alloc (.cells #[.slice A1 L1 c1, .int .i64 k] 73)).cell? ⟨w.heap.size + 1, 0, none⟩ = some (.slice A1 L1 c1) := by simp
  have e3 : ((w.alloc (.cells #[.slice A L c, .int .i64 n] 73)).alloc (.cells #[.slice A1 L1 c1, .int .i64 k] 73)).cell? ⟨w.heap.size + 1, 1, none⟩ = some (.int .i64 k) := by simp
  have z0 : w.heap.size + 2 ≤ ((w.alloc (.cells #[.slice A L c, .int .i64 n] 73)).alloc (.cells #[.slice A1 L1 c1, .int .i64 k] 73)).heap.size := by simp
  have HCUT := Lib.hid hcut
  have HCUT1 := Lib.hid hcut1
  have HLU := Lib.hid hlu
  have HLV := Lib.hid hlv
  have H68 := Lib.hid h68
  have H40 := Lib.hid h40
  have HBAD := Lib.hid hbad
  clear hcut hcut1 hlu hlv h68 h40 hbad
  clear hA hA1 hL hL1 hnil hnil1 l1 l2
  go_enter Try.func14, Try.ntmps14
  go_wp2_with (fail)
  generalize ((w.alloc (.cells #[.slice A L c, .int .i64 n] 73)).alloc (.cells #[.slice A1 L1 c1, .int .i64 k] 73)) = W at *
  go_region_held3 (fun w' => w'.cell? ⟨w.heap.size, 0, none⟩ = some (.slice A L c) ∧ w'.cell? ⟨w.heap.size + 1, 0, none⟩ = some (.slice A1 L1 c1))
    (first
      | go_keep
      | exact ⟨e0, e2⟩
      | exact ⟨(hbx.cell (p := ⟨w.heap.size, 0, none⟩) (by simp; omega)).trans e0, (hbx.cell (p := ⟨w.heap.size + 1, 0, none⟩) (by simp; omega)).trans e2⟩
      | exact ⟨(hby.cell (p := ⟨w.heap.size, 0, none⟩) (by have := hbx.size; simp at this ⊢; omega)).trans ((hbx.cell (p := ⟨w.heap.size, 0, none⟩) (by simp; omega)).trans e0), (hby.cell (p := ⟨w.heap.size + 1, 0, none⟩) (by have := hbx.size; simp at this ⊢; omega)).trans ((hbx.cell (p := ⟨w.heap.size + 1, 0, none⟩) (by simp; omega)).trans e2)⟩)
    ((first
      | (go_at_call 26; (with_reducible refine (HCUT.out _ ?_).mono ?_); exact below_drewN b0 1; rintro e w1 ⟨va, rfl, hva, hbx⟩)
      | (go_at_call 26; (with_reducible refine (HCUT1.out _ ?_).mono ?_); exact below_at (below_drewN b0 1) (Nat.le_refl _) hbx; rintro e w2 ⟨vb, rfl, hvb, hby⟩)))
  have f1 := (hby.cell (p := ⟨w.heap.size, 1, none⟩) (by have := hbx.size; simp at this ⊢; omega)).trans ((hbx.cell (p := ⟨w.heap.size, 1, none⟩) (by simp; omega)).trans e1)
  have f3 := (hby.cell (p := ⟨w.heap.size + 1, 1, none⟩) (by have := hbx.size; simp at this ⊢; omega)).trans ((hbx.cell (p := ⟨w.heap.size + 1, 1, none⟩) (by simp; omega)).trans e3)
  have b1 := below_at (below_drewN b0 1) (Nat.le_refl _) hbx
  have b2 := below_at b1 (Nat.le_refl _) hby
  have ka := (HLU.out _ _ _ hva).keep hby
  have kb := HLV.out _ _ _ hvb
  clear e0 e1 e2 e3 b0 z0
  go_wp2
  go_quiet (fail)
  go_wp2_with (fail)
  refine (H68.out _ _ _ _ _ (ka.keep (below_drewN (Below.refl _ _) _)) (kb.keep (below_drewN (Below.refl _ _) _))).mono ?_
  rintro e w11 ⟨rfl, hb11⟩
  have b11 := below_at (below_drewN b2 _) (Nat.le_refl _) hb11
  have ka_11 := (ka.keep (below_drewN (Below.refl _ _) _)).keep hb11
  have kb_11 := (kb.keep (below_drewN (Below.refl _ _) _)).keep hb11
  go_wp2_with (fail)
  refine (H40.out _ _ _ ka_11 kb_11).mono ?_
  rintro e w12 ⟨rfl, rfl⟩
  go_wp2_with (fail)
  refine (lives_any _).mono ?_
  rintro e w13 ⟨rfl, hb13⟩
  have b13 := below_at b11 (Nat.le_refl _) hb13
  go_wp2
  go_ret
  exact ⟨rfl, b13⟩

set_option maxHeartbeats 2000000 in
set_option maxRecDepth 100000 in
theorem natfits_bad_gt_gt (A A1 : Option Addr) (c c1 L L1 : Nat) (n k : Int) (xs ys : List Nat) (w : World) (hA : Nums .u32 w A xs) (hA1 : Nums .u32 w A1 ys) (hL : L = xs.length) (hL1 : L1 = ys.length) (hc : L ≤ c) (hc1 : L1 ≤ c1) (hnil : A = none → c = 0) (hnil1 : A1 = none → c1 = 0) (hbad : chk2 (xs.take 4) (ys.take 4) ≠ 0) (hn : 40 < n) (hk : 40 < k) : Calls Try.prog 14 #[.agg #[.slice A L c, .int .i64 n], .agg #[.slice A1 L1 c1, .int .i64 k]] w (LivesPost w) := by
  have hcut : ∀ w', Below w.heap.size w w' → Calls Try.prog 26 #[.slice A L c, .int .i64 4] w' (LsPost w' (xs.take 4)) := fun w' h => cut_any A c L 4 xs w' (hA.keep h) hL hc hnil (by omega)
  have hcut1 : ∀ w', Below w.heap.size w w' → Calls Try.prog 26 #[.slice A1 L1 c1, .int .i64 4] w' (LsPost w' (ys.take 4)) := fun w' h => cut_any A1 c1 L1 4 ys w' (hA1.keep h) hL1 hc1 hnil1 (by omega)
  have l1 : (xs.take 4).length ≤ 4 := by rw [List.length_take]; omega
  have l2 : (ys.take 4).length ≤ 4 := by rw [List.length_take]; omega
  generalize xs.take 4 = us at *
  generalize ys.take 4 = vs at *
  have hlu : ∀ B w' a, OwnLs B w' a us → Limbs w' a us := fun B w' a h => h.limbs (by omega)
  have hlv : ∀ B w' a, OwnLs B w' a vs → Limbs w' a vs := fun B w' a h => h.limbs (by omega)
  have h68 := fun a b n k w h j => fits_bad a b n k us vs w h j hbad
  have h40 := fun a b w h j => both_any a b us vs w h j
  generalize chk2 us vs = r at *
  have hq : (r == 0) = false := by simp [hbad]
  have hq1 : (r != 0) = true := by simp [hbad]
  have hq2 : (r == r) = true := by simp
  obtain ⟨nq, hnq⟩ : ∃ q, n % 41 = q := ⟨_, rfl⟩
  have tn : n.tmod 41 = nq := by rw [Int.tmod_eq_emod_of_nonneg (by omega)]; exact hnq
  obtain ⟨kq, hkq⟩ : ∃ q, k % 41 = q := ⟨_, rfl⟩
  have tk : k.tmod 41 = kq := by rw [Int.tmod_eq_emod_of_nonneg (by omega)]; exact hkq
  have b0 : Below w.heap.size w ((w.alloc (.cells #[.slice A L c, .int .i64 n] 73)).alloc (.cells #[.slice A1 L1 c1, .int .i64 k] 73)) := ((Below.refl _ _).alloc (Nat.le_refl _) _).alloc (by simp) _
  have e0 : ((w.alloc (.cells #[.slice A L c, .int .i64 n] 73)).alloc (.cells #[.slice A1 L1 c1, .int .i64 k] 73)).cell? ⟨w.heap.size, 0, none⟩ = some (.slice A L c) := by simp
  have e1 : ((w.alloc (.cells #[.slice A L c, .int .i64 n] 73)).alloc (.cells #[.slice A1 L1 c1, .int .i64 k] 73)).cell? ⟨w.heap.size, 1, none⟩ = some (.int .i64 n) := by simp
  have e2 : ((w.alloc (.cells #[.slice A L c, .int .i64 n] 73)).alloc (.cells #[.slice A1 L1 c1, .int .i64 k] 73)).cell? ⟨w.heap.size + 1, 0, none⟩ = some (.slice A1 L1 c1) := by simp
  have e3 : ((w.alloc (.cells #[.slice A L c, .int .i64 n] 73)).alloc (.cells #[.slice A1 L1 c1, .int .i64 k] 73)).cell? ⟨w.heap.size + 1, 1, none⟩ = some (.int .i64 k) := by simp
  have z0 : w.heap.size + 2 ≤ ((w.alloc (.cells #[.slice A L c, .int .i64 n] 73)).alloc (.cells #[.slice A1 L1 c1, .int .i64 k] 73)).heap.size := by simp
  have HCUT := Lib.hid hcut
  have HCUT1 := Lib.hid hcut1
  have HLU := Lib.hid hlu
  have HLV := Lib.hid hlv
  have H68 := Lib.hid h68
  have H40 := Lib.hid h40
  have HBAD := Lib.hid hbad
  clear hcut hcut1 hlu hlv h68 h40 hbad
  clear hA hA1 hL hL1 hnil hnil1 l1 l2
  go_enter Try.func14, Try.ntmps14
  go_wp2_with (fail)
  generalize ((w.alloc (.cells #[.slice A L c, .int .i64 n] 73)).alloc (.cells #[.slice A1 L1 c1, .int .i64 k] 73)) = W at *
  go_region_held3 (fun w' => w'.cell? ⟨w.heap.size, 0, none⟩ = some (.slice A L c) ∧ w'.cell? ⟨w.heap.size + 1, 0, none⟩ = some (.slice A1 L1 c1))
    (first
      | go_keep
      | exact ⟨e0, e2⟩
      | exact ⟨(hbx.cell (p := ⟨w.heap.size, 0, none⟩) (by simp; omega)).trans e0, (hbx.cell (p := ⟨w.heap.size + 1, 0, none⟩) (by simp; omega)).trans e2⟩
      | exact ⟨(hby.cell (p := ⟨w.heap.size, 0, none⟩) (by have := hbx.size; simp at this ⊢; omega)).trans ((hbx.cell (p := ⟨w.heap.size, 0, none⟩) (by simp; omega)).trans e0), (hby.cell (p := ⟨w.heap.size + 1, 0, none⟩) (by have := hbx.size; simp at this ⊢; omega)).trans ((hbx.cell (p := ⟨w.heap.size + 1, 0, none⟩) (by simp; omega)).trans e2)⟩)
    ((first
      | (go_at_call 26; (with_reducible refine (HCUT.out _ ?_).mono ?_); exact below_drewN b0 1; rintro e w1 ⟨va, rfl, hva, hbx⟩)
      | (go_at_call 26; (with_reducible refine (HCUT1.out _ ?_).mono ?_); exact below_at (below_drewN b0 1) (Nat.le_refl _) hbx; rintro e w2 ⟨vb, rfl, hvb, hby⟩)))
  have f1 := (hby.cell (p := ⟨w.heap.size, 1, none⟩) (by have := hbx.size; simp at this ⊢; omega)).trans ((hbx.cell (p := ⟨w.heap.size, 1, none⟩) (by simp; omega)).trans e1)
  have f3 := (hby.cell (p := ⟨w.heap.size + 1, 1, none⟩) (by have := hbx.size; simp at this ⊢; omega)).trans ((hbx.cell (p := ⟨w.heap.size + 1, 1, none⟩) (by simp; omega)).trans e3)
  have b1 := below_at (below_drewN b0 1) (Nat.le_refl _) hbx
  have b2 := below_at b1 (Nat.le_refl _) hby
  have ka := (HLU.out _ _ _ hva).keep hby
  have kb := HLV.out _ _ _ hvb
  clear e0 e1 e2 e3 b0 z0
  go_wp2
  go_quiet (fail)
  go_wp2_with (fail)
  refine (H68.out _ _ _ _ _ (ka.keep (below_drewN (Below.refl _ _) _)) (kb.keep (below_drewN (Below.refl _ _) _))).mono ?_
  rintro e w11 ⟨rfl, hb11⟩
  have b11 := below_at (below_drewN b2 _) (Nat.le_refl _) hb11
  have ka_11 := (ka.keep (below_drewN (Below.refl _ _) _)).keep hb11
  have kb_11 := (kb.keep (below_drewN (Below.refl _ _) _)).keep hb11
  go_wp2_with (fail)
  refine (H40.out _ _ _ ka_11 kb_11).mono ?_
  rintro e w12 ⟨rfl, rfl⟩
  go_wp2_with (fail)
  refine (lives_any _).mono ?_
  rintro e w13 ⟨rfl, hb13⟩
  have b13 := below_at b11 (Nat.le_refl _) hb13
  go_wp2
  go_ret
  exact ⟨rfl, b13⟩

set_option maxHeartbeats 2000000 in
set_option maxRecDepth 100000 in
theorem natfits_neg_neg (A A1 : Option Addr) (c c1 L L1 : Nat) (n k : Int) (xs ys : List Nat) (w : World) (hA : Nums .u32 w A xs) (hA1 : Nums .u32 w A1 ys) (hL : L = xs.length) (hL1 : L1 = ys.length) (hc : L ≤ c) (hc1 : L1 ≤ c1) (hnil : A = none → c = 0) (hnil1 : A1 = none → c1 = 0) (x y : Nat) (hm : xs.take 4 = dig B32 x) (hm1 : ys.take 4 = dig B32 y) (hn : n < 0) (hk : k < 0)  : Calls Try.prog 14 #[.agg #[.slice A L c, .int .i64 n], .agg #[.slice A1 L1 c1, .int .i64 k]] w (LivesPost w) := by
  have hcut : ∀ w', Below w.heap.size w w' → Calls Try.prog 26 #[.slice A L c, .int .i64 4] w' (LsPost w' (xs.take 4)) := fun w' h => cut_any A c L 4 xs w' (hA.keep h) hL hc hnil (by omega)
  have hcut1 : ∀ w', Below w.heap.size w w' → Calls Try.prog 26 #[.slice A1 L1 c1, .int .i64 4] w' (LsPost w' (ys.take 4)) := fun w' h => cut_any A1 c1 L1 4 ys w' (hA1.keep h) hL1 hc1 hnil1 (by omega)
  have l1 : (xs.take 4).length ≤ 4 := by rw [List.length_take]; omega
  have l2 : (ys.take 4).length ≤ 4 := by rw [List.length_take]; omega
  rw [hm] at hcut l1
  rw [hm1] at hcut1 l2
  have hlu : ∀ B w' a, OwnLs B w' a (dig B32 x) → Limbs w' a (dig B32 x) := fun B w' a h => h.limbs (by omega)
  have hlv : ∀ B w' a, OwnLs B w' a (dig B32 y) → Limbs w' a (dig B32 y) := fun B w' a h => h.limbs (by omega)
  have h40 := fun a b w h j => both_any a b (dig B32 x) (dig B32 y) w h j
  rw [chk2, if_pos (chk_dig (by omega)), chk_dig (by omega)] at h40
  have h68 := fun a b k w' (h : Limbs w' a (dig B32 x)) (l : Limbs w' b (dig B32 y)) => fits_neg1 a b n k x y w' h.is l.is (by omega) (by omega) hn
  have b0 : Below w.heap.size w ((w.alloc (.cells #[.slice A L c, .int .i64 n] 73)).alloc (.cells #[.slice A1 L1 c1, .int .i64 k] 73)) := ((Below.refl _ _).alloc (Nat.le_refl _) _).alloc (by simp) _
  have e0 : ((w.alloc (.cells #[.slice A L c, .int .i64 n] 73)).alloc (.cells #[.slice A1 L1 c1, .int .i64 k] 73)).cell? ⟨w.heap.size, 0, none⟩ = some (.slice A L c) := by simp
  have e1 : ((w.alloc (.cells #[.slice A L c, .int .i64 n] 73)).alloc (.cells #[.slice A1 L1 c1, .int .i64 k] 73)).cell? ⟨w.heap.size, 1, none⟩ = some (.int .i64 n) := by simp
  have e2 : ((w.alloc (.cells #[.slice A L c, .int .i64 n] 73)).alloc (.cells #[.slice A1 L1 c1, .int .i64 k] 73)).cell? ⟨w.heap.size + 1, 0, none⟩ = some (.slice A1 L1 c1) := by simp
  have e3 : ((w.alloc (.cells #[.slice A L c, .int .i64 n] 73)).alloc (.cells #[.slice A1 L1 c1, .int .i64 k] 73)).cell? ⟨w.heap.size + 1, 1, none⟩ = some (.int .i64 k) := by simp
  have z0 : w.heap.size + 2 ≤ ((w.alloc (.cells #[.slice A L c, .int .i64 n] 73)).alloc (.cells #[.slice A1 L1 c1, .int .i64 k] 73)).heap.size := by simp
  have HCUT := Lib.hid hcut
  have HCUT1 := Lib.hid hcut1
  have HLU := Lib.hid hlu
  have HLV := Lib.hid hlv
  have H40 := Lib.hid h40
  have H68 := Lib.hid h68
  clear hcut hcut1 hlu hlv h40 h68
  clear hm hm1
  clear hA hA1 hL hL1 hnil hnil1 l1 l2
  go_enter Try.func14, Try.ntmps14
  go_wp2_with (fail)
  generalize ((w.alloc (.cells #[.slice A L c, .int .i64 n] 73)).alloc (.cells #[.slice A1 L1 c1, .int .i64 k] 73)) = W at *
  go_region_held3 (fun w' => w'.cell? ⟨w.heap.size, 0, none⟩ = some (.slice A L c) ∧ w'.cell? ⟨w.heap.size + 1, 0, none⟩ = some (.slice A1 L1 c1))
    (first
      | go_keep
      | exact ⟨e0, e2⟩
      | exact ⟨(hbx.cell (p := ⟨w.heap.size, 0, none⟩) (by simp; omega)).trans e0, (hbx.cell (p := ⟨w.heap.size + 1, 0, none⟩) (by simp; omega)).trans e2⟩
      | exact ⟨(hby.cell (p := ⟨w.heap.size, 0, none⟩) (by have := hbx.size; simp at this ⊢; omega)).trans ((hbx.cell (p := ⟨w.heap.size, 0, none⟩) (by simp; omega)).trans e0), (hby.cell (p := ⟨w.heap.size + 1, 0, none⟩) (by have := hbx.size; simp at this ⊢; omega)).trans ((hbx.cell (p := ⟨w.heap.size + 1, 0, none⟩) (by simp; omega)).trans e2)⟩)
    ((first
      | (go_at_call 26; (with_reducible refine (HCUT.out _ ?_).mono ?_); exact below_drewN b0 1; rintro e w1 ⟨va, rfl, hva, hbx⟩)
      | (go_at_call 26; (with_reducible refine (HCUT1.out _ ?_).mono ?_); exact below_at (below_drewN b0 1) (Nat.le_refl _) hbx; rintro e w2 ⟨vb, rfl, hvb, hby⟩)))
  have f1 := (hby.cell (p := ⟨w.heap.size, 1, none⟩) (by have := hbx.size; simp at this ⊢; omega)).trans ((hbx.cell (p := ⟨w.heap.size, 1, none⟩) (by simp; omega)).trans e1)
  have f3 := (hby.cell (p := ⟨w.heap.size + 1, 1, none⟩) (by have := hbx.size; simp at this ⊢; omega)).trans ((hbx.cell (p := ⟨w.heap.size + 1, 1, none⟩) (by simp; omega)).trans e3)
  have b1 := below_at (below_drewN b0 1) (Nat.le_refl _) hbx
  have b2 := below_at b1 (Nat.le_refl _) hby
  have ka := (HLU.out _ _ _ hva).keep hby
  have kb := HLV.out _ _ _ hvb
  clear e0 e1 e2 e3 b0 z0
  go_wp2
  go_quiet (fail)
  go_wp2_with (fail)
  refine (H68.out _ _ _ _ (ka.keep (below_drewN (Below.refl _ _) _)) (kb.keep (below_drewN (Below.refl _ _) _))).mono ?_
  rintro e w11 ⟨rfl, hb11⟩
  have b11 := below_at (below_drewN b2 _) (Nat.le_refl _) hb11
  have ka_11 := (ka.keep (below_drewN (Below.refl _ _) _)).keep hb11
  have kb_11 := (kb.keep (below_drewN (Below.refl _ _) _)).keep hb11
  go_wp2_with (fail)
  refine (H40.out _ _ _ ka_11 kb_11).mono ?_
  rintro e w12 ⟨rfl, rfl⟩
  go_wp2_with (fail)
  refine (lives_any _).mono ?_
  rintro e w13 ⟨rfl, hb13⟩
  have b13 := below_at b11 (Nat.le_refl _) hb13
  go_wp2
  go_ret
  exact ⟨rfl, b13⟩

set_option maxHeartbeats 2000000 in
set_option maxRecDepth 100000 in
theorem natfits_neg_small (A A1 : Option Addr) (c c1 L L1 : Nat) (n k : Int) (xs ys : List Nat) (w : World) (hA : Nums .u32 w A xs) (hA1 : Nums .u32 w A1 ys) (hL : L = xs.length) (hL1 : L1 = ys.length) (hc : L ≤ c) (hc1 : L1 ≤ c1) (hnil : A = none → c = 0) (hnil1 : A1 = none → c1 = 0) (x y : Nat) (hm : xs.take 4 = dig B32 x) (hm1 : ys.take 4 = dig B32 y) (hn : n < 0) (j : Nat) (hj : j ≤ 40) (hk : k = (j : Int))  : Calls Try.prog 14 #[.agg #[.slice A L c, .int .i64 n], .agg #[.slice A1 L1 c1, .int .i64 k]] w (LivesPost w) := by
  subst hk
  have hcut : ∀ w', Below w.heap.size w w' → Calls Try.prog 26 #[.slice A L c, .int .i64 4] w' (LsPost w' (xs.take 4)) := fun w' h => cut_any A c L 4 xs w' (hA.keep h) hL hc hnil (by omega)
  have hcut1 : ∀ w', Below w.heap.size w w' → Calls Try.prog 26 #[.slice A1 L1 c1, .int .i64 4] w' (LsPost w' (ys.take 4)) := fun w' h => cut_any A1 c1 L1 4 ys w' (hA1.keep h) hL1 hc1 hnil1 (by omega)
  have l1 : (xs.take 4).length ≤ 4 := by rw [List.length_take]; omega
  have l2 : (ys.take 4).length ≤ 4 := by rw [List.length_take]; omega
  rw [hm] at hcut l1
  rw [hm1] at hcut1 l2
  have hlu : ∀ B w' a, OwnLs B w' a (dig B32 x) → Limbs w' a (dig B32 x) := fun B w' a h => h.limbs (by omega)
  have hlv : ∀ B w' a, OwnLs B w' a (dig B32 y) → Limbs w' a (dig B32 y) := fun B w' a h => h.limbs (by omega)
  have h40 := fun a b w h j => both_any a b (dig B32 x) (dig B32 y) w h j
  rw [chk2, if_pos (chk_dig (by omega)), chk_dig (by omega)] at h40
  have h68 := fun a b k w' (h : Limbs w' a (dig B32 x)) (l : Limbs w' b (dig B32 y)) => fits_neg1 a b n k x y w' h.is l.is (by omega) (by omega) hn
  have b0 : Below w.heap.size w ((w.alloc (.cells #[.slice A L c, .int .i64 n] 73)).alloc (.cells #[.slice A1 L1 c1, .int .i64 (j : Int)] 73)) := ((Below.refl _ _).alloc (Nat.le_refl _) _).alloc (by simp) _
  have e0 : ((w.alloc (.cells #[.slice A L c, .int .i64 n] 73)).alloc (.cells #[.slice A1 L1 c1, .int .i64 (j : Int)] 73)).cell? ⟨w.heap.size, 0, none⟩ = some (.slice A L c) := by simp
  have e1 : ((w.alloc (.cells #[.slice A L c, .int .i64 n] 73)).alloc (.cells #[.slice A1 L1 c1, .int .i64 (j : Int)] 73)).cell? ⟨w.heap.size, 1, none⟩ = some (.int .i64 n) := by simp
  have e2 : ((w.alloc (.cells #[.slice A L c, .int .i64 n] 73)).alloc (.cells #[.slice A1 L1 c1, .int .i64 (j : Int)] 73)).cell? ⟨w.heap.size + 1, 0, none⟩ = some (.slice A1 L1 c1) := by simp
  have e3 : ((w.alloc (.cells #[.slice A L c, .int .i64 n] 73)).alloc (.cells #[.slice A1 L1 c1, .int .i64 (j : Int)] 73)).cell? ⟨w.heap.size + 1, 1, none⟩ = some (.int .i64 (j : Int)) := by simp
  have z0 : w.heap.size + 2 ≤ ((w.alloc (.cells #[.slice A L c, .int .i64 n] 73)).alloc (.cells #[.slice A1 L1 c1, .int .i64 (j : Int)] 73)).heap.size := by simp
  have HCUT := Lib.hid hcut
  have HCUT1 := Lib.hid hcut1
  have HLU := Lib.hid hlu
  have HLV := Lib.hid hlv
  have H40 := Lib.hid h40
  have H68 := Lib.hid h68
  clear hcut hcut1 hlu hlv h40 h68
  clear hm hm1
  clear hA hA1 hL hL1 hnil hnil1 l1 l2
  go_enter Try.func14, Try.ntmps14
  go_wp2_with (fail)
  generalize ((w.alloc (.cells #[.slice A L c, .int .i64 n] 73)).alloc (.cells #[.slice A1 L1 c1, .int .i64 (j : Int)] 73)) = W at *
  go_region_held3 (fun w' => w'.cell? ⟨w.heap.size, 0, none⟩ = some (.slice A L c) ∧ w'.cell? ⟨w.heap.size + 1, 0, none⟩ = some (.slice A1 L1 c1))
    (first
      | go_keep
      | exact ⟨e0, e2⟩
      | exact ⟨(hbx.cell (p := ⟨w.heap.size, 0, none⟩) (by simp; omega)).trans e0, (hbx.cell (p := ⟨w.heap.size + 1, 0, none⟩) (by simp; omega)).trans e2⟩
      | exact ⟨(hby.cell (p := ⟨w.heap.size, 0, none⟩) (by have := hbx.size; simp at this ⊢; omega)).trans ((hbx.cell (p := ⟨w.heap.size, 0, none⟩) (by simp; omega)).trans e0), (hby.cell (p := ⟨w.heap.size + 1, 0, none⟩) (by have := hbx.size; simp at this ⊢; omega)).trans ((hbx.cell (p := ⟨w.heap.size + 1, 0, none⟩) (by simp; omega)).trans e2)⟩)
    ((first
      | (go_at_call 26; (with_reducible refine (HCUT.out _ ?_).mono ?_); exact below_drewN b0 1; rintro e w1 ⟨va, rfl, hva, hbx⟩)
      | (go_at_call 26; (with_reducible refine (HCUT1.out _ ?_).mono ?_); exact below_at (below_drewN b0 1) (Nat.le_refl _) hbx; rintro e w2 ⟨vb, rfl, hvb, hby⟩)))
  have f1 := (hby.cell (p := ⟨w.heap.size, 1, none⟩) (by have := hbx.size; simp at this ⊢; omega)).trans ((hbx.cell (p := ⟨w.heap.size, 1, none⟩) (by simp; omega)).trans e1)
  have f3 := (hby.cell (p := ⟨w.heap.size + 1, 1, none⟩) (by have := hbx.size; simp at this ⊢; omega)).trans ((hbx.cell (p := ⟨w.heap.size + 1, 1, none⟩) (by simp; omega)).trans e3)
  have b1 := below_at (below_drewN b0 1) (Nat.le_refl _) hbx
  have b2 := below_at b1 (Nat.le_refl _) hby
  have ka := (HLU.out _ _ _ hva).keep hby
  have kb := HLV.out _ _ _ hvb
  clear e0 e1 e2 e3 b0 z0
  go_wp2
  go_quiet (fail)
  go_wp2_with (fail)
  refine (H68.out _ _ _ _ (ka.keep (below_drewN (Below.refl _ _) _)) (kb.keep (below_drewN (Below.refl _ _) _))).mono ?_
  rintro e w11 ⟨rfl, hb11⟩
  have b11 := below_at (below_drewN b2 _) (Nat.le_refl _) hb11
  have ka_11 := (ka.keep (below_drewN (Below.refl _ _) _)).keep hb11
  have kb_11 := (kb.keep (below_drewN (Below.refl _ _) _)).keep hb11
  go_wp2_with (fail)
  refine (H40.out _ _ _ ka_11 kb_11).mono ?_
  rintro e w12 ⟨rfl, rfl⟩
  go_wp2_with (fail)
  refine (lives_any _).mono ?_
  rintro e w13 ⟨rfl, hb13⟩
  have b13 := below_at b11 (Nat.le_refl _) hb13
  go_wp2
  go_ret
  exact ⟨rfl, b13⟩

set_option maxHeartbeats 2000000 in
set_option maxRecDepth 100000 in
theorem natfits_neg_mod (A A1 : Option Addr) (c c1 L L1 : Nat) (n k : Int) (xs ys : List Nat) (w : World) (hA : Nums .u32 w A xs) (hA1 : Nums .u32 w A1 ys) (hL : L = xs.length) (hL1 : L1 = ys.length) (hc : L ≤ c) (hc1 : L1 ≤ c1) (hnil : A = none → c = 0) (hnil1 : A1 = none → c1 = 0) (x y : Nat) (hm : xs.take 4 = dig B32 x) (hm1 : ys.take 4 = dig B32 y) (hn : n < 0) (j : Nat) (hj : j ≤ 40) (hk : 40 < k) (hk2 : k % 41 = (j : Int))  : Calls Try.prog 14 #[.agg #[.slice A L c, .int .i64 n], .agg #[.slice A1 L1 c1, .int .i64 k]] w (LivesPost w) := by
  have hcut : ∀ w', Below w.heap.size w w' → Calls Try.prog 26 #[.slice A L c, .int .i64 4] w' (LsPost w' (xs.take 4)) := fun w' h => cut_any A c L 4 xs w' (hA.keep h) hL hc hnil (by omega)
  have hcut1 : ∀ w', Below w.heap.size w w' → Calls Try.prog 26 #[.slice A1 L1 c1, .int .i64 4] w' (LsPost w' (ys.take 4)) := fun w' h => cut_any A1 c1 L1 4 ys w' (hA1.keep h) hL1 hc1 hnil1 (by omega)
  have l1 : (xs.take 4).length ≤ 4 := by rw [List.length_take]; omega
  have l2 : (ys.take 4).length ≤ 4 := by rw [List.length_take]; omega
  rw [hm] at hcut l1
  rw [hm1] at hcut1 l2
  have hlu : ∀ B w' a, OwnLs B w' a (dig B32 x) → Limbs w' a (dig B32 x) := fun B w' a h => h.limbs (by omega)
  have hlv : ∀ B w' a, OwnLs B w' a (dig B32 y) → Limbs w' a (dig B32 y) := fun B w' a h => h.limbs (by omega)
  have h40 := fun a b w h j => both_any a b (dig B32 x) (dig B32 y) w h j
  rw [chk2, if_pos (chk_dig (by omega)), chk_dig (by omega)] at h40
  have tk : k.tmod 41 = (j : Int) := by rw [Int.tmod_eq_emod_of_nonneg (by omega)]; exact hk2
  have h68 := fun a b k w' (h : Limbs w' a (dig B32 x)) (l : Limbs w' b (dig B32 y)) => fits_neg1 a b n k x y w' h.is l.is (by omega) (by omega) hn
  have b0 : Below w.heap.size w ((w.alloc (.cells #[.slice A L c, .int .i64 n] 73)).alloc (.cells #[.slice A1 L1 c1, .int .i64 k] 73)) := ((Below.refl _ _).alloc (Nat.le_refl _) _).alloc (by simp) _
  have e0 : ((w.alloc (.cells #[.slice A L c, .int .i64 n] 73)).alloc (.cells #[.slice A1 L1 c1, .int .i64 k] 73)).cell? ⟨w.heap.size, 0, none⟩ = some (.slice A L c) := by simp
  have e1 : ((w.alloc (.cells #[.slice A L c, .int .i64 n] 73)).alloc (.cells #[.slice A1 L1 c1, .int .i64 k] 73)).cell? ⟨w.heap.size, 1, none⟩ = some (.int .i64 n) := by simp
  have e2 : ((w.alloc (.cells #[.slice A L c, .int .i64 n] 73)).alloc (.cells #[.slice A1 L1 c1, .int .i64 k] 73)).cell? ⟨w.heap.size + 1, 0, none⟩ = some (.slice A1 L1 c1) := by simp
  have e3 : ((w.alloc (.cells #[.slice A L c, .int .i64 n] 73)).alloc (.cells #[.slice A1 L1 c1, .int .i64 k] 73)).cell? ⟨w.heap.size + 1, 1, none⟩ = some (.int .i64 k) := by simp
  have z0 : w.heap.size + 2 ≤ ((w.alloc (.cells #[.slice A L c, .int .i64 n] 73)).alloc (.cells #[.slice A1 L1 c1, .int .i64 k] 73)).heap.size := by simp
  have HCUT := Lib.hid hcut
  have HCUT1 := Lib.hid hcut1
  have HLU := Lib.hid hlu
  have HLV := Lib.hid hlv
  have H40 := Lib.hid h40
  have H68 := Lib.hid h68
  clear hcut hcut1 hlu hlv h40 h68
  clear hm hm1
  clear hA hA1 hL hL1 hnil hnil1 l1 l2
  go_enter Try.func14, Try.ntmps14
  go_wp2_with (fail)
  generalize ((w.alloc (.cells #[.slice A L c, .int .i64 n] 73)).alloc (.cells #[.slice A1 L1 c1, .int .i64 k] 73)) = W at *
  go_region_held3 (fun w' => w'.cell? ⟨w.heap.size, 0, none⟩ = some (.slice A L c) ∧ w'.cell? ⟨w.heap.size + 1, 0, none⟩ = some (.slice A1 L1 c1))
    (first
      | go_keep
      | exact ⟨e0, e2⟩
      | exact ⟨(hbx.cell (p := ⟨w.heap.size, 0, none⟩) (by simp; omega)).trans e0, (hbx.cell (p := ⟨w.heap.size + 1, 0, none⟩) (by simp; omega)).trans e2⟩
      | exact ⟨(hby.cell (p := ⟨w.heap.size, 0, none⟩) (by have := hbx.size; simp at this ⊢; omega)).trans ((hbx.cell (p := ⟨w.heap.size, 0, none⟩) (by simp; omega)).trans e0), (hby.cell (p := ⟨w.heap.size + 1, 0, none⟩) (by have := hbx.size; simp at this ⊢; omega)).trans ((hbx.cell (p := ⟨w.heap.size + 1, 0, none⟩) (by simp; omega)).trans e2)⟩)
    ((first
      | (go_at_call 26; (with_reducible refine (HCUT.out _ ?_).mono ?_); exact below_drewN b0 1; rintro e w1 ⟨va, rfl, hva, hbx⟩)
      | (go_at_call 26; (with_reducible refine (HCUT1.out _ ?_).mono ?_); exact below_at (below_drewN b0 1) (Nat.le_refl _) hbx; rintro e w2 ⟨vb, rfl, hvb, hby⟩)))
  have f1 := (hby.cell (p := ⟨w.heap.size, 1, none⟩) (by have := hbx.size; simp at this ⊢; omega)).trans ((hbx.cell (p := ⟨w.heap.size, 1, none⟩) (by simp; omega)).trans e1)
  have f3 := (hby.cell (p := ⟨w.heap.size + 1, 1, none⟩) (by have := hbx.size; simp at this ⊢; omega)).trans ((hbx.cell (p := ⟨w.heap.size + 1, 1, none⟩) (by simp; omega)).trans e3)
  have b1 := below_at (below_drewN b0 1) (Nat.le_refl _) hbx
  have b2 := below_at b1 (Nat.le_refl _) hby
  have ka := (HLU.out _ _ _ hva).keep hby
  have kb := HLV.out _ _ _ hvb
  clear e0 e1 e2 e3 b0 z0
  go_wp2
  go_quiet (fail)
  go_wp2_with (fail)
  refine (H68.out _ _ _ _ (ka.keep (below_drewN (Below.refl _ _) _)) (kb.keep (below_drewN (Below.refl _ _) _))).mono ?_
  rintro e w11 ⟨rfl, hb11⟩
  have b11 := below_at (below_drewN b2 _) (Nat.le_refl _) hb11
  have ka_11 := (ka.keep (below_drewN (Below.refl _ _) _)).keep hb11
  have kb_11 := (kb.keep (below_drewN (Below.refl _ _) _)).keep hb11
  go_wp2_with (fail)
  refine (H40.out _ _ _ ka_11 kb_11).mono ?_
  rintro e w12 ⟨rfl, rfl⟩
  go_wp2_with (fail)
  refine (lives_any _).mono ?_
  rintro e w13 ⟨rfl, hb13⟩
  have b13 := below_at b11 (Nat.le_refl _) hb13
  go_wp2
  go_ret
  exact ⟨rfl, b13⟩

set_option maxHeartbeats 2000000 in
set_option maxRecDepth 100000 in
theorem natfits_small_neg (A A1 : Option Addr) (c c1 L L1 : Nat) (n k : Int) (xs ys : List Nat) (w : World) (hA : Nums .u32 w A xs) (hA1 : Nums .u32 w A1 ys) (hL : L = xs.length) (hL1 : L1 = ys.length) (hc : L ≤ c) (hc1 : L1 ≤ c1) (hnil : A = none → c = 0) (hnil1 : A1 = none → c1 = 0) (x y : Nat) (hm : xs.take 4 = dig B32 x) (hm1 : ys.take 4 = dig B32 y) (i : Nat) (hi : i ≤ 40) (hn : n = (i : Int)) (hk : k < 0)  : Calls Try.prog 14 #[.agg #[.slice A L c, .int .i64 n], .agg #[.slice A1 L1 c1, .int .i64 k]] w (LivesPost w) := by
  subst hn
  have hcut : ∀ w', Below w.heap.size w w' → Calls Try.prog 26 #[.slice A L c, .int .i64 4] w' (LsPost w' (xs.take 4)) := fun w' h => cut_any A c L 4 xs w' (hA.keep h) hL hc hnil (by omega)
  have hcut1 : ∀ w', Below w.heap.size w w' → Calls Try.prog 26 #[.slice A1 L1 c1, .int .i64 4] w' (LsPost w' (ys.take 4)) := fun w' h => cut_any A1 c1 L1 4 ys w' (hA1.keep h) hL1 hc1 hnil1 (by omega)
  have l1 : (xs.take 4).length ≤ 4 := by rw [List.length_take]; omega
  have l2 : (ys.take 4).length ≤ 4 := by rw [List.length_take]; omega
  rw [hm] at hcut l1
  rw [hm1] at hcut1 l2
  have hlu : ∀ B w' a, OwnLs B w' a (dig B32 x) → Limbs w' a (dig B32 x) := fun B w' a h => h.limbs (by omega)
  have hlv : ∀ B w' a, OwnLs B w' a (dig B32 y) → Limbs w' a (dig B32 y) := fun B w' a h => h.limbs (by omega)
  have h40 := fun a b w h j => both_any a b (dig B32 x) (dig B32 y) w h j
  rw [chk2, if_pos (chk_dig (by omega)), chk_dig (by omega)] at h40
  have h68 := fun a b w' (h : Limbs w' a (dig B32 x)) (l : Limbs w' b (dig B32 y)) => fits_neg2 a b (i : Int) k x y w' h.is l.is (by omega) (by omega) (by omega) hk
  have b0 : Below w.heap.size w ((w.alloc (.cells #[.slice A L c, .int .i64 (i : Int)] 73)).alloc (.cells #[.slice A1 L1 c1, .int .i64 k] 73)) := ((Below.refl _ _).alloc (Nat.le_refl _) _).alloc (by simp) _
  have e0 : ((w.alloc (.cells #[.slice A L c, .int .i64 (i : Int)] 73)).alloc (.cells #[.slice A1 L1 c1, .int .i64 k] 73)).cell? ⟨w.heap.size, 0, none⟩ = some (.slice A L c) := by simp
  have e1 : ((w.alloc (.cells #[.slice A L c, .int .i64 (i : Int)] 73)).alloc (.cells #[.slice A1 L1 c1, .int .i64 k] 73)).cell? ⟨w.heap.size, 1, none⟩ = some (.int .i64 (i : Int)) := by simp
  have e2 : ((w.alloc (.cells #[.slice A L c, .int .i64 (i : Int)] 73)).alloc (.cells #[.slice A1 L1 c1, .int .i64 k] 73)).cell? ⟨w.heap.size + 1, 0, none⟩ = some (.slice A1 L1 c1) := by simp
  have e3 : ((w.alloc (.cells #[.slice A L c, .int .i64 (i : Int)] 73)).alloc (.cells #[.slice A1 L1 c1, .int .i64 k] 73)).cell? ⟨w.heap.size + 1, 1, none⟩ = some (.int .i64 k) := by simp
  have z0 : w.heap.size + 2 ≤ ((w.alloc (.cells #[.slice A L c, .int .i64 (i : Int)] 73)).alloc (.cells #[.slice A1 L1 c1, .int .i64 k] 73)).heap.size := by simp
  have HCUT := Lib.hid hcut
  have HCUT1 := Lib.hid hcut1
  have HLU := Lib.hid hlu
  have HLV := Lib.hid hlv
  have H40 := Lib.hid h40
  have H68 := Lib.hid h68
  clear hcut hcut1 hlu hlv h40 h68
  clear hm hm1
  clear hA hA1 hL hL1 hnil hnil1 l1 l2
  go_enter Try.func14, Try.ntmps14
  go_wp2_with (fail)
  generalize ((w.alloc (.cells #[.slice A L c, .int .i64 (i : Int)] 73)).alloc (.cells #[.slice A1 L1 c1, .int .i64 k] 73)) = W at *
  go_region_held3 (fun w' => w'.cell? ⟨w.heap.size, 0, none⟩ = some (.slice A L c) ∧ w'.cell? ⟨w.heap.size + 1, 0, none⟩ = some (.slice A1 L1 c1))
    (first
      | go_keep
      | exact ⟨e0, e2⟩
      | exact ⟨(hbx.cell (p := ⟨w.heap.size, 0, none⟩) (by simp; omega)).trans e0, (hbx.cell (p := ⟨w.heap.size + 1, 0, none⟩) (by simp; omega)).trans e2⟩
      | exact ⟨(hby.cell (p := ⟨w.heap.size, 0, none⟩) (by have := hbx.size; simp at this ⊢; omega)).trans ((hbx.cell (p := ⟨w.heap.size, 0, none⟩) (by simp; omega)).trans e0), (hby.cell (p := ⟨w.heap.size + 1, 0, none⟩) (by have := hbx.size; simp at this ⊢; omega)).trans ((hbx.cell (p := ⟨w.heap.size + 1, 0, none⟩) (by simp; omega)).trans e2)⟩)
    ((first
      | (go_at_call 26; (with_reducible refine (HCUT.out _ ?_).mono ?_); exact below_drewN b0 1; rintro e w1 ⟨va, rfl, hva, hbx⟩)
      | (go_at_call 26; (with_reducible refine (HCUT1.out _ ?_).mono ?_); exact below_at (below_drewN b0 1) (Nat.le_refl _) hbx; rintro e w2 ⟨vb, rfl, hvb, hby⟩)))
  have f1 := (hby.cell (p := ⟨w.heap.size, 1, none⟩) (by have := hbx.size; simp at this ⊢; omega)).trans ((hbx.cell (p := ⟨w.heap.size, 1, none⟩) (by simp; omega)).trans e1)
  have f3 := (hby.cell (p := ⟨w.heap.size + 1, 1, none⟩) (by have := hbx.size; simp at this ⊢; omega)).trans ((hbx.cell (p := ⟨w.heap.size + 1, 1, none⟩) (by simp; omega)).trans e3)
  have b1 := below_at (below_drewN b0 1) (Nat.le_refl _) hbx
  have b2 := below_at b1 (Nat.le_refl _) hby
  have ka := (HLU.out _ _ _ hva).keep hby
  have kb := HLV.out _ _ _ hvb
  clear e0 e1 e2 e3 b0 z0
  go_wp2
  go_quiet (fail)
  go_wp2_with (fail)
  refine (H68.out _ _ _ (ka.keep (below_drewN (Below.refl _ _) _)) (kb.keep (below_drewN (Below.refl _ _) _))).mono ?_
  rintro e w11 ⟨rfl, hb11⟩
  have b11 := below_at (below_drewN b2 _) (Nat.le_refl _) hb11
  have ka_11 := (ka.keep (below_drewN (Below.refl _ _) _)).keep hb11
  have kb_11 := (kb.keep (below_drewN (Below.refl _ _) _)).keep hb11
  go_wp2_with (fail)
  refine (H40.out _ _ _ ka_11 kb_11).mono ?_
  rintro e w12 ⟨rfl, rfl⟩
  go_wp2_with (fail)
  refine (lives_any _).mono ?_
  rintro e w13 ⟨rfl, hb13⟩
  have b13 := below_at b11 (Nat.le_refl _) hb13
  go_wp2
  go_ret
  exact ⟨rfl, b13⟩

set_option maxHeartbeats 2000000 in
set_option maxRecDepth 100000 in
theorem natfits_small_small (A A1 : Option Addr) (c c1 L L1 : Nat) (n k : Int) (xs ys : List Nat) (w : World) (hA : Nums .u32 w A xs) (hA1 : Nums .u32 w A1 ys) (hL : L = xs.length) (hL1 : L1 = ys.length) (hc : L ≤ c) (hc1 : L1 ≤ c1) (hnil : A = none → c = 0) (hnil1 : A1 = none → c1 = 0) (x y : Nat) (hm : xs.take 4 = dig B32 x) (hm1 : ys.take 4 = dig B32 y) (i : Nat) (hi : i ≤ 40) (hn : n = (i : Int)) (j : Nat) (hj : j ≤ 40) (hk : k = (j : Int))  : Calls Try.prog 14 #[.agg #[.slice A L c, .int .i64 n], .agg #[.slice A1 L1 c1, .int .i64 k]] w (LivesPost w) := by
  subst hn
  subst hk
  have hcut : ∀ w', Below w.heap.size w w' → Calls Try.prog 26 #[.slice A L c, .int .i64 4] w' (LsPost w' (xs.take 4)) := fun w' h => cut_any A c L 4 xs w' (hA.keep h) hL hc hnil (by omega)
  have hcut1 : ∀ w', Below w.heap.size w w' → Calls Try.prog 26 #[.slice A1 L1 c1, .int .i64 4] w' (LsPost w' (ys.take 4)) := fun w' h => cut_any A1 c1 L1 4 ys w' (hA1.keep h) hL1 hc1 hnil1 (by omega)
  have l1 : (xs.take 4).length ≤ 4 := by rw [List.length_take]; omega
  have l2 : (ys.take 4).length ≤ 4 := by rw [List.length_take]; omega
  rw [hm] at hcut l1
  rw [hm1] at hcut1 l2
  have hlu : ∀ B w' a, OwnLs B w' a (dig B32 x) → Limbs w' a (dig B32 x) := fun B w' a h => h.limbs (by omega)
  have hlv : ∀ B w' a, OwnLs B w' a (dig B32 y) → Limbs w' a (dig B32 y) := fun B w' a h => h.limbs (by omega)
  have h40 := fun a b w h j => both_any a b (dig B32 x) (dig B32 y) w h j
  rw [chk2, if_pos (chk_dig (by omega)), chk_dig (by omega)] at h40
  have bx : nbits x ≤ 128 := Nat.le_trans (bits_of_len l1) (by omega)
  have by' : nbits y ≤ 128 := Nat.le_trans (bits_of_len l2) (by omega)
  have hpx : ∀ j, j ≤ i → (dig B32 (x ^ j)).length ≤ 500 := fun j hj => len32_of_bits (Nat.le_trans (nbits_pow_le x j) (by have := Nat.mul_le_mul (Nat.le_trans hj hi) bx; omega))
  have hpy : ∀ i, i ≤ j → (dig B32 (y ^ i)).length ≤ 500 := fun i hi => len32_of_bits (Nat.le_trans (nbits_pow_le y i) (by have := Nat.mul_le_mul (Nat.le_trans hi hj) by'; omega))
  have h68 := fun a b w' (h : Limbs w' a (dig B32 x)) (l : Limbs w' b (dig B32 y)) => fits_ok a b x y i j w' h.is l.is (by omega) (by omega) (by omega) (by omega)
  have h53 := fun a w' (h : Limbs w' a (dig B32 x)) => refPow_any a x i w' h.is (by omega) (by omega) hpx
  have h53b := fun a w' (h : Limbs w' a (dig B32 y)) => refPow_any a y j w' h.is (by omega) (by omega) hpy
  have lp := hpx i (Nat.le_refl _)
  have lq := hpy j (Nat.le_refl _)
  have h42 := fun a b w' (h : N32 w' a (x ^ i)) (l : N32 w' b (y ^ j)) => refCmp_call a b _ _ w' h l (by omega) (by omega)
  generalize cmpN (x ^ i) (y ^ j) = r at *
  have hq2 : (r == r) = true := by simp
  have b0 : Below w.heap.size w ((w.alloc (.cells #[.slice A L c, .int .i64 (i : Int)] 73)).alloc (.cells #[.slice A1 L1 c1, .int .i64 (j : Int)] 73)) := ((Below.refl _ _).alloc (Nat.le_refl _) _).alloc (by simp) _
  have e0 : ((w.alloc (.cells #[.slice A L c, .int .i64 (i : Int)] 73)).alloc (.cells #[.slice A1 L1 c1, .int .i64 (j : Int)] 73)).cell? ⟨w.heap.size, 0, none⟩ = some (.slice A L c) := by simp
  have e1 : ((w.alloc (.cells #[.slice A L c, .int .i64 (i : Int)] 73)).alloc (.cells #[.slice A1 L1 c1, .int .i64 (j : Int)] 73)).cell? ⟨w.heap.size, 1, none⟩ = some (.int .i64 (i : Int)) := by simp
  have e2 : ((w.alloc (.cells #[.slice A L c, .int .i64 (i : Int)] 73)).alloc (.cells #[.slice A1 L1 c1, .int .i64 (j : Int)] 73)).cell? ⟨w.heap.size + 1, 0, none⟩ = some (.slice A1 L1 c1) := by simp
  have e3 : ((w.alloc (.cells #[.slice A L c, .int .i64 (i : Int)] 73)).alloc (.cells #[.slice A1 L1 c1, .int .i64 (j : Int)] 73)).cell? ⟨w.heap.size + 1, 1, none⟩ = some (.int .i64 (j : Int)) := by simp
  have z0 : w.heap.size + 2 ≤ ((w.alloc (.cells #[.slice A L c, .int .i64 (i : Int)] 73)).alloc (.cells #[.slice A1 L1 c1, .int .i64 (j : Int)] 73)).heap.size := by simp
  have HCUT := Lib.hid hcut
  have HCUT1 := Lib.hid hcut1
  have HLU := Lib.hid hlu
  have HLV := Lib.hid hlv
  have H40 := Lib.hid h40
  have H68 := Lib.hid h68
  have H53 := Lib.hid h53
  have H53b := Lib.hid h53b
  have H42 := Lib.hid h42
  clear hcut hcut1 hlu hlv h40 h68 h53 h53b h42
  clear bx by' hpx hpy lp lq hm hm1
  clear hA hA1 hL hL1 hnil hnil1 l1 l2
  go_enter Try.func14, Try.ntmps14
  go_wp2_with (fail)
  generalize ((w.alloc (.cells #[.slice A L c, .int .i64 (i : Int)] 73)).alloc (.cells #[.slice A1 L1 c1, .int .i64 (j : Int)] 73)) = W at *
  go_region_held3 (fun w' => w'.cell? ⟨w.heap.size, 0, none⟩ = some (.slice A L c) ∧ w'.cell? ⟨w.heap.size + 1, 0, none⟩ = some (.slice A1 L1 c1))
    (first
      | go_keep
      | exact ⟨e0, e2⟩
      | exact ⟨(hbx.cell (p := ⟨w.heap.size, 0, none⟩) (by simp; omega)).trans e0, (hbx.cell (p := ⟨w.heap.size + 1, 0, none⟩) (by simp; omega)).trans e2⟩
      | exact ⟨(hby.cell (p := ⟨w.heap.size, 0, none⟩) (by have := hbx.size; simp at this ⊢; omega)).trans ((hbx.cell (p := ⟨w.heap.size, 0, none⟩) (by simp; omega)).trans e0), (hby.cell (p := ⟨w.heap.size + 1, 0, none⟩) (by have := hbx.size; simp at this ⊢; omega)).trans ((hbx.cell (p := ⟨w.heap.size + 1, 0, none⟩) (by simp; omega)).trans e2)⟩)
    ((first
      | (go_at_call 26; (with_reducible refine (HCUT.out _ ?_).mono ?_); exact below_drewN b0 1; rintro e w1 ⟨va, rfl, hva, hbx⟩)
      | (go_at_call 26; (with_reducible refine (HCUT1.out _ ?_).mono ?_); exact below_at (below_drewN b0 1) (Nat.le_refl _) hbx; rintro e w2 ⟨vb, rfl, hvb, hby⟩)))
  have f1 := (hby.cell (p := ⟨w.heap.size, 1, none⟩) (by have := hbx.size; simp at this ⊢; omega)).trans ((hbx.cell (p := ⟨w.heap.size, 1, none⟩) (by simp; omega)).trans e1)
  have f3 := (hby.cell (p := ⟨w.heap.size + 1, 1, none⟩) (by have := hbx.size; simp at this ⊢; omega)).trans ((hbx.cell (p := ⟨w.heap.size + 1, 1, none⟩) (by simp; omega)).trans e3)
  have b1 := below_at (below_drewN b0 1) (Nat.le_refl _) hbx
  have b2 := below_at b1 (Nat.le_refl _) hby
  have ka := (HLU.out _ _ _ hva).keep hby
  have kb := HLV.out _ _ _ hvb
  clear e0 e1 e2 e3 b0 z0
  go_wp2
  go_quiet (fail)
  go_wp2_with (fail)
  refine (H68.out _ _ _ (ka.keep (below_drewN (Below.refl _ _) _)) (kb.keep (below_drewN (Below.refl _ _) _))).mono ?_
  rintro e w11 ⟨rfl, hb11⟩
  have b11 := below_at (below_drewN b2 _) (Nat.le_refl _) hb11
  have ka_11 := (ka.keep (below_drewN (Below.refl _ _) _)).keep hb11
  have kb_11 := (kb.keep (below_drewN (Below.refl _ _) _)).keep hb11
  go_wp2_with (fail)
  refine (H40.out _ _ _ ka_11 kb_11).mono ?_
  rintro e w12 ⟨rfl, rfl⟩
  go_wp2_with (fail)
  refine (H53.out _ _ ka_11).mono ?_
  rintro e w13 ⟨vp, rfl, hvp, hb13⟩
  have b13 := below_at b11 (Nat.le_refl _) hb13
  have kb_13 := kb_11.keep hb13
  have kp_13 := hvp
  go_wp2_with (fail)
  refine (H53b.out _ _ kb_13).mono ?_
  rintro e w14 ⟨vq, rfl, hvq, hb14⟩
  have b14 := below_at b13 (Nat.le_refl _) hb14
  have kp_14 := kp_13.keep hb14
  have kq_14 := hvq
  go_wp2_with (fail)
  refine (H42.out _ _ _ kp_14 kq_14).mono ?_
  rintro e w15 ⟨rfl, hb15⟩
  have b15 := below_at b14 (Nat.le_refl _) hb15
  go_wp2_with (fail)
  refine (lives_any _).mono ?_
  rintro e w16 ⟨rfl, hb16⟩
  have b16 := below_at b15 (Nat.le_refl _) hb16
  go_wp2
  go_ret
  exact ⟨rfl, b16⟩

set_option maxHeartbeats 2000000 in
set_option maxRecDepth 100000 in
theorem natfits_small_mod (A A1 : Option Addr) (c c1 L L1 : Nat) (n k : Int) (xs ys : List Nat) (w : World) (hA : Nums .u32 w A xs) (hA1 : Nums .u32 w A1 ys) (hL : L = xs.length) (hL1 : L1 = ys.length) (hc : L ≤ c) (hc1 : L1 ≤ c1) (hnil : A = none → c = 0) (hnil1 : A1 = none → c1 = 0) (x y : Nat) (hm : xs.take 4 = dig B32 x) (hm1 : ys.take 4 = dig B32 y) (i : Nat) (hi : i ≤ 40) (hn : n = (i : Int)) (j : Nat) (hj : j ≤ 40) (hk : 40 < k) (hk2 : k % 41 = (j : Int))  : Calls Try.prog 14 #[.agg #[.slice A L c, .int .i64 n], .agg #[.slice A1 L1 c1, .int .i64 k]] w (LivesPost w) := by
  subst hn
  have hcut : ∀ w', Below w.heap.size w w' → Calls Try.prog 26 #[.slice A L c, .int .i64 4] w' (LsPost w' (xs.take 4)) := fun w' h => cut_any A c L 4 xs w' (hA.keep h) hL hc hnil (by omega)
  have hcut1 : ∀ w', Below w.heap.size w w' → Calls Try.prog 26 #[.slice A1 L1 c1, .int .i64 4] w' (LsPost w' (ys.take 4)) := fun w' h => cut_any A1 c1 L1 4 ys w' (hA1.keep h) hL1 hc1 hnil1 (by omega)
  have l1 : (xs.take 4).length ≤ 4 := by rw [List.length_take]; omega
  have l2 : (ys.take 4).length ≤ 4 := by rw [List.length_take]; omega
  rw [hm] at hcut l1
  rw [hm1] at hcut1 l2
  have hlu : ∀ B w' a, OwnLs B w' a (dig B32 x) → Limbs w' a (dig B32 x) := fun B w' a h => h.limbs (by omega)
  have hlv : ∀ B w' a, OwnLs B w' a (dig B32 y) → Limbs w' a (dig B32 y) := fun B w' a h => h.limbs (by omega)
  have h40 := fun a b w h j => both_any a b (dig B32 x) (dig B32 y) w h j
  rw [chk2, if_pos (chk_dig (by omega)), chk_dig (by omega)] at h40
  have tk : k.tmod 41 = (j : Int) := by rw [Int.tmod_eq_emod_of_nonneg (by omega)]; exact hk2
  have bx : nbits x ≤ 128 := Nat.le_trans (bits_of_len l1) (by omega)
  have by' : nbits y ≤ 128 := Nat.le_trans (bits_of_len l2) (by omega)
  have hpx : ∀ j, j ≤ i → (dig B32 (x ^ j)).length ≤ 500 := fun j hj => len32_of_bits (Nat.le_trans (nbits_pow_le x j) (by have := Nat.mul_le_mul (Nat.le_trans hj hi) bx; omega))
  have hpy : ∀ i, i ≤ j → (dig B32 (y ^ i)).length ≤ 500 := fun i hi => len32_of_bits (Nat.le_trans (nbits_pow_le y i) (by have := Nat.mul_le_mul (Nat.le_trans hi hj) by'; omega))
  have h68 := fun a b w' (h : Limbs w' a (dig B32 x)) (l : Limbs w' b (dig B32 y)) => fits_ok a b x y i j w' h.is l.is (by omega) (by omega) (by omega) (by omega)
  have h53 := fun a w' (h : Limbs w' a (dig B32 x)) => refPow_any a x i w' h.is (by omega) (by omega) hpx
  have h53b := fun a w' (h : Limbs w' a (dig B32 y)) => refPow_any a y j w' h.is (by omega) (by omega) hpy
  have lp := hpx i (Nat.le_refl _)
  have lq := hpy j (Nat.le_refl _)
  have h42 := fun a b w' (h : N32 w' a (x ^ i)) (l : N32 w' b (y ^ j)) => refCmp_call a b _ _ w' h l (by omega) (by omega)
  generalize cmpN (x ^ i) (y ^ j) = r at *
  have hq2 : (r == r) = true := by simp
  have b0 : Below w.heap.size w ((w.alloc (.cells #[.slice A L c, .int .i64 (i : Int)] 73)).alloc (.cells #[.slice A1 L1 c1, .int .i64 k] 73)) := ((Below.refl _ _).alloc (Nat.le_refl _) _).alloc (by simp) _
  have e0 : ((w.alloc (.cells #[.slice A L c, .int .i64 (i : Int)] 73)).alloc (.cells #[.slice A1 L1 c1, .int .i64 k] 73)).cell? ⟨w.heap.size, 0, none⟩ = some (.slice A L c) := by simp
  have e1 : ((w.alloc (.cells #[.slice A L c, .int .i64 (i : Int)] 73)).alloc (.cells #[.slice A1 L1 c1, .int .i64 k] 73)).cell? ⟨w.heap.size, 1, none⟩ = some (.int .i64 (i : Int)) := by simp
  have e2 : ((w.alloc (.cells #[.slice A L c, .int .i64 (i : Int)] 73)).alloc (.cells #[.slice A1 L1 c1, .int .i64 k] 73)).cell? ⟨w.heap.size + 1, 0, none⟩ = some (.slice A1 L1 c1) := by simp
  have e3 : ((w.alloc (.cells #[.slice A L c, .int .i64 (i : Int)] 73)).alloc (.cells #[.slice A1 L1 c1, .int .i64 k] 73)).cell? ⟨w.heap.size + 1, 1, none⟩ = some (.int .i64 k) := by simp
  have z0 : w.heap.size + 2 ≤ ((w.alloc (.cells #[.slice A L c, .int .i64 (i : Int)] 73)).alloc (.cells #[.slice A1 L1 c1, .int .i64 k] 73)).heap.size := by simp
  have HCUT := Lib.hid hcut
  have HCUT1 := Lib.hid hcut1
  have HLU := Lib.hid hlu
  have HLV := Lib.hid hlv
  have H40 := Lib.hid h40
  have H68 := Lib.hid h68
  have H53 := Lib.hid h53
  have H53b := Lib.hid h53b
  have H42 := Lib.hid h42
  clear hcut hcut1 hlu hlv h40 h68 h53 h53b h42
  clear bx by' hpx hpy lp lq hm hm1
  clear hA hA1 hL hL1 hnil hnil1 l1 l2
  go_enter Try.func14, Try.ntmps14
  go_wp2_with (fail)
  generalize ((w.alloc (.cells #[.slice A L c, .int .i64 (i : Int)] 73)).alloc (.cells #[.slice A1 L1 c1, .int .i64 k] 73)) = W at *
  go_region_held3 (fun w' => w'.cell? ⟨w.heap.size, 0, none⟩ = some (.slice A L c) ∧ w'.cell? ⟨w.heap.size + 1, 0, none⟩ = some (.slice A1 L1 c1))
    (first
      | go_keep
      | exact ⟨e0, e2⟩
      | exact ⟨(hbx.cell (p := ⟨w.heap.size, 0, none⟩) (by simp; omega)).trans e0, (hbx.cell (p := ⟨w.heap.size + 1, 0, none⟩) (by simp; omega)).trans e2⟩
      | exact ⟨(hby.cell (p := ⟨w.heap.size, 0, none⟩) (by have := hbx.size; simp at this ⊢; omega)).trans ((hbx.cell (p := ⟨w.heap.size, 0, none⟩) (by simp; omega)).trans e0), (hby.cell (p := ⟨w.heap.size + 1, 0, none⟩) (by have := hbx.size; simp at this ⊢; omega)).trans ((hbx.cell (p := ⟨w.heap.size + 1, 0, none⟩) (by simp; omega)).trans e2)⟩)
    ((first
      | (go_at_call 26; (with_reducible refine (HCUT.out _ ?_).mono ?_); exact below_drewN b0 1; rintro e w1 ⟨va, rfl, hva, hbx⟩)
      | (go_at_call 26; (with_reducible refine (HCUT1.out _ ?_).mono ?_); exact below_at (below_drewN b0 1) (Nat.le_refl _) hbx; rintro e w2 ⟨vb, rfl, hvb, hby⟩)))
  have f1 := (hby.cell (p := ⟨w.heap.size, 1, none⟩) (by have := hbx.size; simp at this ⊢; omega)).trans ((hbx.cell (p := ⟨w.heap.size, 1, none⟩) (by simp; omega)).trans e1)
  have f3 := (hby.cell (p := ⟨w.heap.size + 1, 1, none⟩) (by have := hbx.size; simp at this ⊢; omega)).trans ((hbx.cell (p := ⟨w.heap.size + 1, 1, none⟩) (by simp; omega)).trans e3)
  have b1 := below_at (below_drewN b0 1) (Nat.le_refl _) hbx
  have b2 := below_at b1 (Nat.le_refl _) hby
  have ka := (HLU.out _ _ _ hva).keep hby
  have kb := HLV.out _ _ _ hvb
  clear e0 e1 e2 e3 b0 z0
  go_wp2
  go_quiet (fail)
  go_wp2_with (fail)
  refine (H68.out _ _ _ (ka.keep (below_drewN (Below.refl _ _) _)) (kb.keep (below_drewN (Below.refl _ _) _))).mono ?_
  rintro e w11 ⟨rfl, hb11⟩
  have b11 := below_at (below_drewN b2 _) (Nat.le_refl _) hb11
  have ka_11 := (ka.keep (below_drewN (Below.refl _ _) _)).keep hb11
  have kb_11 := (kb.keep (below_drewN (Below.refl _ _) _)).keep hb11
  go_wp2_with (fail)
  refine (H40.out _ _ _ ka_11 kb_11).mono ?_
  rintro e w12 ⟨rfl, rfl⟩
  go_wp2_with (fail)
  refine (H53.out _ _ ka_11).mono ?_
  rintro e w13 ⟨vp, rfl, hvp, hb13⟩
  have b13 := below_at b11 (Nat.le_refl _) hb13
  have kb_13 := kb_11.keep hb13
  have kp_13 := hvp
  go_wp2_with (fail)
  refine (H53b.out _ _ kb_13).mono ?_
  rintro e w14 ⟨vq, rfl, hvq, hb14⟩
  have b14 := below_at b13 (Nat.le_refl _) hb14
  have kp_14 := kp_13.keep hb14
  have kq_14 := hvq
  go_wp2_with (fail)
  refine (H42.out _ _ _ kp_14 kq_14).mono ?_
  rintro e w15 ⟨rfl, hb15⟩
  have b15 := below_at b14 (Nat.le_refl _) hb15
  go_wp2_with (fail)
  refine (lives_any _).mono ?_
  rintro e w16 ⟨rfl, hb16⟩
  have b16 := below_at b15 (Nat.le_refl _) hb16
  go_wp2
  go_ret
  exact ⟨rfl, b16⟩

set_option maxHeartbeats 2000000 in
set_option maxRecDepth 100000 in
theorem natfits_mod_neg (A A1 : Option Addr) (c c1 L L1 : Nat) (n k : Int) (xs ys : List Nat) (w : World) (hA : Nums .u32 w A xs) (hA1 : Nums .u32 w A1 ys) (hL : L = xs.length) (hL1 : L1 = ys.length) (hc : L ≤ c) (hc1 : L1 ≤ c1) (hnil : A = none → c = 0) (hnil1 : A1 = none → c1 = 0) (x y : Nat) (hm : xs.take 4 = dig B32 x) (hm1 : ys.take 4 = dig B32 y) (i : Nat) (hi : i ≤ 40) (hn : 40 < n) (hn2 : n % 41 = (i : Int)) (hk : k < 0)  : Calls Try.prog 14 #[.agg #[.slice A L c, .int .i64 n], .agg #[.slice A1 L1 c1, .int .i64 k]] w (LivesPost w) := by
  have hcut : ∀ w', Below w.heap.size w w' → Calls Try.prog 26 #[.slice A L c, .int .i64 4] w' (LsPost w' (xs.take 4)) := fun w' h => cut_any A c L 4 xs w' (hA.keep h) hL hc hnil (by omega)
  have hcut1 : ∀ w', Below w.heap.size w w' → Calls Try.prog 26 #[.slice A1 L1 c1, .int .i64 4] w' (LsPost w' (ys.take 4)) := fun w' h => cut_any A1 c1 L1 4 ys w' (hA1.keep h) hL1 hc1 hnil1 (by omega)
  have l1 : (xs.take 4).length ≤ 4 := by rw [List.length_take]; omega
  have l2 : (ys.take 4).length ≤ 4 := by rw [List.length_take]; omega
  rw [hm] at hcut l1
  rw [hm1] at hcut1 l2
  have hlu : ∀ B w' a, OwnLs B w' a (dig B32 x) → Limbs w' a (dig B32 x) := fun B w' a h => h.limbs (by omega)
  have hlv : ∀ B w' a, OwnLs B w' a (dig B32 y) → Limbs w' a (dig B32 y) := fun B w' a h => h.limbs (by omega)
  have h40 := fun a b w h j => both_any a b (dig B32 x) (dig B32 y) w h j
  rw [chk2, if_pos (chk_dig (by omega)), chk_dig (by omega)] at h40
  have tn : n.tmod 41 = (i : Int) := by rw [Int.tmod_eq_emod_of_nonneg (by omega)]; exact hn2
  have h68 := fun a b w' (h : Limbs w' a (dig B32 x)) (l : Limbs w' b (dig B32 y)) => fits_neg2 a b (i : Int) k x y w' h.is l.is (by omega) (by omega) (by omega) hk
  have b0 : Below w.heap.size w ((w.alloc (.cells #[.slice A L c, .int .i64 n] 73)).alloc (.cells #[.slice A1 L1 c1, .int .i64 k] 73)) := ((Below.refl _ _).alloc (Nat.le_refl _) _).alloc (by simp) _
  have e0 : ((w.alloc (.cells #[.slice A L c, .int .i64 n] 73)).alloc (.cells #[.slice A1 L1 c1, .int .i64 k] 73)).cell? ⟨w.heap.size, 0, none⟩ = some (.slice A L c) := by simp
  have e1 : ((w.alloc (.cells #[.slice A L c, .int .i64 n] 73)).alloc (.cells #[.slice A1 L1 c1, .int .i64 k] 73)).cell? ⟨w.heap.size, 1, none⟩ = some (.int .i64 n) := by simp
  have e2 : ((w.alloc (.cells #[.slice A L c, .int .i64 n] 73)).alloc (.cells #[.slice A1 L1 c1, .int .i64 k] 73)).cell? ⟨w.heap.size + 1, 0, none⟩ = some (.slice A1 L1 c1) := by simp
  have e3 : ((w.alloc (.cells #[.slice A L c, .int .i64 n] 73)).alloc (.cells #[.slice A1 L1 c1, .int .i64 k] 73)).cell? ⟨w.heap.size + 1, 1, none⟩ = some (.int .i64 k) := by simp
  have z0 : w.heap.size + 2 ≤ ((w.alloc (.cells #[.slice A L c, .int .i64 n] 73)).alloc (.cells #[.slice A1 L1 c1, .int .i64 k] 73)).heap.size := by simp
  have HCUT := Lib.hid hcut
  have HCUT1 := Lib.hid hcut1
  have HLU := Lib.hid hlu
  have HLV := Lib.hid hlv
  have H40 := Lib.hid h40
  have H68 := Lib.hid h68
  clear hcut hcut1 hlu hlv h40 h68
  clear hm hm1
  clear hA hA1 hL hL1 hnil hnil1 l1 l2
  go_enter Try.func14, Try.ntmps14
  go_wp2_with (fail)
  generalize ((w.alloc (.cells #[.slice A L c, .int .i64 n] 73)).alloc (.cells #[.slice A1 L1 c1, .int .i64 k] 73)) = W at *
  go_region_held3 (fun w' => w'.cell? ⟨w.heap.size, 0, none⟩ = some (.slice A L c) ∧ w'.cell? ⟨w.heap.size + 1, 0, none⟩ = some (.slice A1 L1 c1))
    (first
      | go_keep
      | exact ⟨e0, e2⟩
      | exact ⟨(hbx.cell (p := ⟨w.heap.size, 0, none⟩) (by simp; omega)).trans e0, (hbx.cell (p := ⟨w.heap.size + 1, 0, none⟩) (by simp; omega)).trans e2⟩
      | exact ⟨(hby.cell (p := ⟨w.heap.size, 0, none⟩) (by have := hbx.size; simp at this ⊢; omega)).trans ((hbx.cell (p := ⟨w.heap.size, 0, none⟩) (by simp; omega)).trans e0), (hby.cell (p := ⟨w.heap.size + 1, 0, none⟩) (by have := hbx.size; simp at this ⊢; omega)).trans ((hbx.cell (p := ⟨w.heap.size + 1, 0, none⟩) (by simp; omega)).trans e2)⟩)
    ((first
      | (go_at_call 26; (with_reducible refine (HCUT.out _ ?_).mono ?_); exact below_drewN b0 1; rintro e w1 ⟨va, rfl, hva, hbx⟩)
      | (go_at_call 26; (with_reducible refine (HCUT1.out _ ?_).mono ?_); exact below_at (below_drewN b0 1) (Nat.le_refl _) hbx; rintro e w2 ⟨vb, rfl, hvb, hby⟩)))
  have f1 := (hby.cell (p := ⟨w.heap.size, 1, none⟩) (by have := hbx.size; simp at this ⊢; omega)).trans ((hbx.cell (p := ⟨w.heap.size, 1, none⟩) (by simp; omega)).trans e1)
  have f3 := (hby.cell (p := ⟨w.heap.size + 1, 1, none⟩) (by have := hbx.size; simp at this ⊢; omega)).trans ((hbx.cell (p := ⟨w.heap.size + 1, 1, none⟩) (by simp; omega)).trans e3)
  have b1 := below_at (below_drewN b0 1) (Nat.le_refl _) hbx
  have b2 := below_at b1 (Nat.le_refl _) hby
  have ka := (HLU.out _ _ _ hva).keep hby
  have kb := HLV.out _ _ _ hvb
  clear e0 e1 e2 e3 b0 z0
  go_wp2
  go_quiet (fail)
  go_wp2_with (fail)
  refine (H68.out _ _ _ (ka.keep (below_drewN (Below.refl _ _) _)) (kb.keep (below_drewN (Below.refl _ _) _))).mono ?_
  rintro e w11 ⟨rfl, hb11⟩
  have b11 := below_at (below_drewN b2 _) (Nat.le_refl _) hb11
  have ka_11 := (ka.keep (below_drewN (Below.refl _ _) _)).keep hb11
  have kb_11 := (kb.keep (below_drewN (Below.refl _ _) _)).keep hb11
  go_wp2_with (fail)
  refine (H40.out _ _ _ ka_11 kb_11).mono ?_
  rintro e w12 ⟨rfl, rfl⟩
  go_wp2_with (fail)
  refine (lives_any _).mono ?_
  rintro e w13 ⟨rfl, hb13⟩
  have b13 := below_at b11 (Nat.le_refl _) hb13
  go_wp2
  go_ret
  exact ⟨rfl, b13⟩

set_option maxHeartbeats 2000000 in
set_option maxRecDepth 100000 in
theorem natfits_mod_small (A A1 : Option Addr) (c c1 L L1 : Nat) (n k : Int) (xs ys : List Nat) (w : World) (hA : Nums .u32 w A xs) (hA1 : Nums .u32 w A1 ys) (hL : L = xs.length) (hL1 : L1 = ys.length) (hc : L ≤ c) (hc1 : L1 ≤ c1) (hnil : A = none → c = 0) (hnil1 : A1 = none → c1 = 0) (x y : Nat) (hm : xs.take 4 = dig B32 x) (hm1 : ys.take 4 = dig B32 y) (i : Nat) (hi : i ≤ 40) (hn : 40 < n) (hn2 : n % 41 = (i : Int)) (j : Nat) (hj : j ≤ 40) (hk : k = (j : Int))  : Calls Try.prog 14 #[.agg #[.slice A L c, .int .i64 n], .agg #[.slice A1 L1 c1, .int .i64 k]] w (LivesPost w) := by
  subst hk
  have hcut : ∀ w', Below w.heap.size w w' → Calls Try.prog 26 #[.slice A L c, .int .i64 4] w' (LsPost w' (xs.take 4)) := fun w' h => cut_any A c L 4 xs w' (hA.keep h) hL hc hnil (by omega)
  have hcut1 : ∀ w', Below w.heap.size w w' → Calls Try.prog 26 #[.slice A1 L1 c1, .int .i64 4] w' (LsPost w' (ys.take 4)) := fun w' h => cut_any A1 c1 L1 4 ys w' (hA1.keep h) hL1 hc1 hnil1 (by omega)
  have l1 : (xs.take 4).length ≤ 4 := by rw [List.length_take]; omega
  have l2 : (ys.take 4).length ≤ 4 := by rw [List.length_take]; omega
  rw [hm] at hcut l1
  rw [hm1] at hcut1 l2
  have hlu : ∀ B w' a, OwnLs B w' a (dig B32 x) → Limbs w' a (dig B32 x) := fun B w' a h => h.limbs (by omega)
  have hlv : ∀ B w' a, OwnLs B w' a (dig B32 y) → Limbs w' a (dig B32 y) := fun B w' a h => h.limbs (by omega)
  have h40 := fun a b w h j => both_any a b (dig B32 x) (dig B32 y) w h j
  rw [chk2, if_pos (chk_dig (by omega)), chk_dig (by omega)] at h40
  have tn : n.tmod 41 = (i : Int) := by rw [Int.tmod_eq_emod_of_nonneg (by omega)]; exact hn2
  have bx : nbits x ≤ 128 := Nat.le_trans (bits_of_len l1) (by omega)
  have by' : nbits y ≤ 128 := Nat.le_trans (bits_of_len l2) (by omega)
  have hpx : ∀ j, j ≤ i → (dig B32 (x ^ j)).length ≤ 500 := fun j hj => len32_of_bits (Nat.le_trans (nbits_pow_le x j) (by have := Nat.mul_le_mul (Nat.le_trans hj hi) bx; omega))
  have hpy : ∀ i, i ≤ j → (dig B32 (y ^ i)).length ≤ 500 := fun i hi => len32_of_bits (Nat.le_trans (nbits_pow_le y i) (by have := Nat.mul_le_mul (Nat.le_trans hi hj) by'; omega))
  have h68 := fun a b w' (h : Limbs w' a (dig B32 x)) (l : Limbs w' b (dig B32 y)) => fits_ok a b x y i j w' h.is l.is (by omega) (by omega) (by omega) (by omega)
  have h53 := fun a w' (h : Limbs w' a (dig B32 x)) => refPow_any a x i w' h.is (by omega) (by omega) hpx
  have h53b := fun a w' (h : Limbs w' a (dig B32 y)) => refPow_any a y j w' h.is (by omega) (by omega) hpy
  have lp := hpx i (Nat.le_refl _)
  have lq := hpy j (Nat.le_refl _)
  have h42 := fun a b w' (h : N32 w' a (x ^ i)) (l : N32 w' b (y ^ j)) => refCmp_call a b _ _ w' h l (by omega) (by omega)
  generalize cmpN (x ^ i) (y ^ j) = r at *
  have hq2 : (r == r) = true := by simp
  have b0 : Below w.heap.size w ((w.alloc (.cells #[.slice A L c, .int .i64 n] 73)).alloc (.cells #[.slice A1 L1 c1, .int .i64 (j : Int)] 73)) := ((Below.refl _ _).alloc (Nat.le_refl _) _).alloc (by simp) _
  have e0 : ((w.alloc (.cells #[.slice A L c, .int .i64 n] 73)).alloc (.cells #[.slice A1 L1 c1, .int .i64 (j : Int)] 73)).cell? ⟨w.heap.size, 0, none⟩ = some (.slice A L c) := by simp
  have e1 : ((w.alloc (.cells #[.slice A L c, .int .i64 n] 73)).alloc (.cells #[.slice A1 L1 c1, .int .i64 (j : Int)] 73)).cell? ⟨w.heap.size, 1, none⟩ = some (.int .i64 n) := by simp
  have e2 : ((w.alloc (.cells #[.slice A L c, .int .i64 n] 73)).alloc (.cells #[.slice A1 L1 c1, .int .i64 (j : Int)] 73)).cell? ⟨w.heap.size + 1, 0, none⟩ = some (.slice A1 L1 c1) := by simp
  have e3 : ((w.alloc (.cells #[.slice A L c, .int .i64 n] 73)).alloc (.cells #[.slice A1 L1 c1, .int .i64 (j : Int)] 73)).cell? ⟨w.heap.size + 1, 1, none⟩ = some (.int .i64 (j : Int)) := by simp
  have z0 : w.heap.size + 2 ≤ ((w.alloc (.cells #[.slice A L c, .int .i64 n] 73)).alloc (.cells #[.slice A1 L1 c1, .int .i64 (j : Int)] 73)).heap.size := by simp
  have HCUT := Lib.hid hcut
  have HCUT1 := Lib.hid hcut1
  have HLU := Lib.hid hlu
  have HLV := Lib.hid hlv
  have H40 := Lib.hid h40
  have H68 := Lib.hid h68
  have H53 := Lib.hid h53
  have H53b := Lib.hid h53b
  have H42 := Lib.hid h42
  clear hcut hcut1 hlu hlv h40 h68 h53 h53b h42
  clear bx by' hpx hpy lp lq hm hm1
  clear hA hA1 hL hL1 hnil hnil1 l1 l2
  go_enter Try.func14, Try.ntmps14
  go_wp2_with (fail)
  generalize ((w.alloc (.cells #[.slice A L c, .int .i64 n] 73)).alloc (.cells #[.slice A1 L1 c1, .int .i64 (j : Int)] 73)) = W at *
  go_region_held3 (fun w' => w'.cell? ⟨w.heap.size, 0, none⟩ = some (.slice A L c) ∧ w'.cell? ⟨w.heap.size + 1, 0, none⟩ = some (.slice A1 L1 c1))
    (first
      | go_keep
      | exact ⟨e0, e2⟩
      | exact ⟨(hbx.cell (p := ⟨w.heap.size, 0, none⟩) (by simp; omega)).trans e0, (hbx.cell (p := ⟨w.heap.size + 1, 0, none⟩) (by simp; omega)).trans e2⟩
      | exact ⟨(hby.cell (p := ⟨w.heap.size, 0, none⟩) (by have := hbx.size; simp at this ⊢; omega)).trans ((hbx.cell (p := ⟨w.heap.size, 0, none⟩) (by simp; omega)).trans e0), (hby.cell (p := ⟨w.heap.size + 1, 0, none⟩) (by have := hbx.size; simp at this ⊢; omega)).trans ((hbx.cell (p := ⟨w.heap.size + 1, 0, none⟩) (by simp; omega)).trans e2)⟩)
    ((first
      | (go_at_call 26; (with_reducible refine (HCUT.out _ ?_).mono ?_); exact below_drewN b0 1; rintro e w1 ⟨va, rfl, hva, hbx⟩)
      | (go_at_call 26; (with_reducible refine (HCUT1.out _ ?_).mono ?_); exact below_at (below_drewN b0 1) (Nat.le_refl _) hbx; rintro e w2 ⟨vb, rfl, hvb, hby⟩)))
  have f1 := (hby.cell (p := ⟨w.heap.size, 1, none⟩) (by have := hbx.size; simp at this ⊢; omega)).trans ((hbx.cell (p := ⟨w.heap.size, 1, none⟩) (by simp; omega)).trans e1)
  have f3 := (hby.cell (p := ⟨w.heap.size + 1, 1, none⟩) (by have := hbx.size; simp at this ⊢; omega)).trans ((hbx.cell (p := ⟨w.heap.size + 1, 1, none⟩) (by simp; omega)).trans e3)
  have b1 := below_at (below_drewN b0 1) (Nat.le_refl _) hbx
  have b2 := below_at b1 (Nat.le_refl _) hby
  have ka := (HLU.out _ _ _ hva).keep hby
  have kb := HLV.out _ _ _ hvb
  clear e0 e1 e2 e3 b0 z0
  go_wp2
  go_quiet (fail)
  go_wp2_with (fail)
  refine (H68.out _ _ _ (ka.keep (below_drewN (Below.refl _ _) _)) (kb.keep (below_drewN (Below.refl _ _) _))).mono ?_
  rintro e w11 ⟨rfl, hb11⟩
  have b11 := below_at (below_drewN b2 _) (Nat.le_refl _) hb11
  have ka_11 := (ka.keep (below_drewN (Below.refl _ _) _)).keep hb11
  have kb_11 := (kb.keep (below_drewN (Below.refl _ _) _)).keep hb11
  go_wp2_with (fail)
  refine (H40.out _ _ _ ka_11 kb_11).mono ?_
  rintro e w12 ⟨rfl, rfl⟩
  go_wp2_with (fail)
  refine (H53.out _ _ ka_11).mono ?_
  rintro e w13 ⟨vp, rfl, hvp, hb13⟩
  have b13 := below_at b11 (Nat.le_refl _) hb13
  have kb_13 := kb_11.keep hb13
  have kp_13 := hvp
  go_wp2_with (fail)
  refine (H53b.out _ _ kb_13).mono ?_
  rintro e w14 ⟨vq, rfl, hvq, hb14⟩
  have b14 := below_at b13 (Nat.le_refl _) hb14
  have kp_14 := kp_13.keep hb14
  have kq_14 := hvq
  go_wp2_with (fail)
  refine (H42.out _ _ _ kp_14 kq_14).mono ?_
  rintro e w15 ⟨rfl, hb15⟩
  have b15 := below_at b14 (Nat.le_refl _) hb15
  go_wp2_with (fail)
  refine (lives_any _).mono ?_
  rintro e w16 ⟨rfl, hb16⟩
  have b16 := below_at b15 (Nat.le_refl _) hb16
  go_wp2
  go_ret
  exact ⟨rfl, b16⟩

set_option maxHeartbeats 2000000 in
set_option maxRecDepth 100000 in
theorem natfits_mod_mod (A A1 : Option Addr) (c c1 L L1 : Nat) (n k : Int) (xs ys : List Nat) (w : World) (hA : Nums .u32 w A xs) (hA1 : Nums .u32 w A1 ys) (hL : L = xs.length) (hL1 : L1 = ys.length) (hc : L ≤ c) (hc1 : L1 ≤ c1) (hnil : A = none → c = 0) (hnil1 : A1 = none → c1 = 0) (x y : Nat) (hm : xs.take 4 = dig B32 x) (hm1 : ys.take 4 = dig B32 y) (i : Nat) (hi : i ≤ 40) (hn : 40 < n) (hn2 : n % 41 = (i : Int)) (j : Nat) (hj : j ≤ 40) (hk : 40 < k) (hk2 : k % 41 = (j : Int))  : Calls Try.prog 14 #[.agg #[.slice A L c, .int .i64 n], .agg #[.slice A1 L1 c1, .int .i64 k]] w (LivesPost w) := by
  have hcut : ∀ w', Below w.heap.size w w' → Calls Try.prog 26 #[.slice A L c, .int .i64 4] w' (LsPost w' (xs.take 4)) := fun w' h => cut_any A c L 4 xs w' (hA.keep h) hL hc hnil (by omega)
  have hcut1 : ∀ w', Below w.heap.size w w' → Calls Try.prog 26 #[.slice A1 L1 c1, .int .i64 4] w' (LsPost w' (ys.take 4)) := fun w' h => cut_any A1 c1 L1 4 ys w' (hA1.keep h) hL1 hc1 hnil1 (by omega)
  have l1 : (xs.take 4).length ≤ 4 := by rw [List.length_take]; omega
  have l2 : (ys.take 4).length ≤ 4 := by rw [List.length_take]; omega
  rw [hm] at hcut l1
  rw [hm1] at hcut1 l2
  have hlu : ∀ B w' a, OwnLs B w' a (dig B32 x) → Limbs w' a (dig B32 x) := fun B w' a h => h.limbs (by omega)
  have hlv : ∀ B w' a, OwnLs B w' a (dig B32 y) → Limbs w' a (dig B32 y) := fun B w' a h => h.limbs (by omega)
  have h40 := fun a b w h j => both_any a b (dig B32 x) (dig B32 y) w h j
  rw [chk2, if_pos (chk_dig (by omega)), chk_dig (by omega)] at h40
  have tn : n.tmod 41 = (i : Int) := by rw [Int.tmod_eq_emod_of_nonneg (by omega)]; exact hn2
  have tk : k.tmod 41 = (j : Int) := by rw [Int.tmod_eq_emod_of_nonneg (by omega)]; exact hk2
  have bx : nbits x ≤ 128 := Nat.le_trans (bits_of_len l1) (by omega)
  have by' : nbits y ≤ 128 := Nat.le_trans (bits_of_len l2) (by omega)
  have hpx : ∀ j, j ≤ i → (dig B32 (x ^ j)).length ≤ 500 := fun j hj => len32_of_bits (Nat.le_trans (nbits_pow_le x j) (by have := Nat.mul_le_mul (Nat.le_trans hj hi) bx; omega))
  have hpy : ∀ i, i ≤ j → (dig B32 (y ^ i)).length ≤ 500 := fun i hi => len32_of_bits (Nat.le_trans (nbits_pow_le y i) (by have := Nat.mul_le_mul (Nat.le_trans hi hj) by'; omega))
  have h68 := fun a b w' (h : Limbs w' a (dig B32 x)) (l : Limbs w' b (dig B32 y)) => fits_ok a b x y i j w' h.is l.is (by omega) (by omega) (by omega) (by omega)
  have h53 := fun a w' (h : Limbs w' a (dig B32 x)) => refPow_any a x i w' h.is (by omega) (by omega) hpx
  have h53b := fun a w' (h : Limbs w' a (dig B32 y)) => refPow_any a y j w' h.is (by omega) (by omega) hpy
  have lp := hpx i (Nat.le_refl _)
  have lq := hpy j (Nat.le_refl _)
  have h42 := fun a b w' (h : N32 w' a (x ^ i)) (l : N32 w' b (y ^ j)) => refCmp_call a b _ _ w' h l (by omega) (by omega)
  generalize cmpN (x ^ i) (y ^ j) = r at *
  have hq2 : (r == r) = true := by simp
  have b0 : Below w.heap.size w ((w.alloc (.cells #[.slice A L c, .int .i64 n] 73)).alloc (.cells #[.slice A1 L1 c1, .int .i64 k] 73)) := ((Below.refl _ _).alloc (Nat.le_refl _) _).alloc (by simp) _
  have e0 : ((w.alloc (.cells #[.slice A L c, .int .i64 n] 73)).alloc (.cells #[.slice A1 L1 c1, .int .i64 k] 73)).cell? ⟨w.heap.size, 0, none⟩ = some (.slice A L c) := by simp
  have e1 : ((w.alloc (.cells #[.slice A L c, .int .i64 n] 73)).alloc (.cells #[.slice A1 L1 c1, .int .i64 k] 73)).cell? ⟨w.heap.size, 1, none⟩ = some (.int .i64 n) := by simp
  have e2 : ((w.alloc (.cells #[.slice A L c, .int .i64 n] 73)).alloc (.cells #[.slice A1 L1 c1, .int .i64 k] 73)).cell? ⟨w.heap.size + 1, 0, none⟩ = some (.slice A1 L1 c1) := by simp
  have e3 : ((w.alloc (.cells #[.slice A L c, .int .i64 n] 73)).alloc (.cells #[.slice A1 L1 c1, .int .i64 k] 73)).cell? ⟨w.heap.size + 1, 1, none⟩ = some (.int .i64 k) := by simp
  have z0 : w.heap.size + 2 ≤ ((w.alloc (.cells #[.slice A L c, .int .i64 n] 73)).alloc (.cells #[.slice A1 L1 c1, .int .i64 k] 73)).heap.size := by simp
  have HCUT := Lib.hid hcut
  have HCUT1 := Lib.hid hcut1
  have HLU := Lib.hid hlu
  have HLV := Lib.hid hlv
  have H40 := Lib.hid h40
  have H68 := Lib.hid h68
  have H53 := Lib.hid h53
  have H53b := Lib.hid h53b
  have H42 := Lib.hid h42
  clear hcut hcut1 hlu hlv h40 h68 h53 h53b h42
  clear bx by' hpx hpy lp lq hm hm1
  clear hA hA1 hL hL1 hnil hnil1 l1 l2
  go_enter Try.func14, Try.ntmps14
  go_wp2_with (fail)
  generalize ((w.alloc (.cells #[.slice A L c, .int .i64 n] 73)).alloc (.cells #[.slice A1 L1 c1, .int .i64 k] 73)) = W at *
  go_region_held3 (fun w' => w'.cell? ⟨w.heap.size, 0, none⟩ = some (.slice A L c) ∧ w'.cell? ⟨w.heap.size + 1, 0, none⟩ = some (.slice A1 L1 c1))
    (first
      | go_keep
      | exact ⟨e0, e2⟩
      | exact ⟨(hbx.cell (p := ⟨w.heap.size, 0, none⟩) (by simp; omega)).trans e0, (hbx.cell (p := ⟨w.heap.size + 1, 0, none⟩) (by simp; omega)).trans e2⟩
      | exact ⟨(hby.cell (p := ⟨w.heap.size, 0, none⟩) (by have := hbx.size; simp at this ⊢; omega)).trans ((hbx.cell (p := ⟨w.heap.size, 0, none⟩) (by simp; omega)).trans e0), (hby.cell (p := ⟨w.heap.size + 1, 0, none⟩) (by have := hbx.size; simp at this ⊢; omega)).trans ((hbx.cell (p := ⟨w.heap.size + 1, 0, none⟩) (by simp; omega)).trans e2)⟩)
    ((first
      | (go_at_call 26; (with_reducible refine (HCUT.out _ ?_).mono ?_); exact below_drewN b0 1; rintro e w1 ⟨va, rfl, hva, hbx⟩)
      | (go_at_call 26; (with_reducible refine (HCUT1.out _ ?_).mono ?_); exact below_at (below_drewN b0 1) (Nat.le_refl _) hbx; rintro e w2 ⟨vb, rfl, hvb, hby⟩)))
  have f1 := (hby.cell (p := ⟨w.heap.size, 1, none⟩) (by have := hbx.size; simp at this ⊢; omega)).trans ((hbx.cell (p := ⟨w.heap.size, 1, none⟩) (by simp; omega)).trans e1)
  have f3 := (hby.cell (p := ⟨w.heap.size + 1, 1, none⟩) (by have := hbx.size; simp at this ⊢; omega)).trans ((hbx.cell (p := ⟨w.heap.size + 1, 1, none⟩) (by simp; omega)).trans e3)
  have b1 := below_at (below_drewN b0 1) (Nat.le_refl _) hbx
  have b2 := below_at b1 (Nat.le_refl _) hby
  have ka := (HLU.out _ _ _ hva).keep hby
  have kb := HLV.out _ _ _ hvb
  clear e0 e1 e2 e3 b0 z0
  go_wp2
  go_quiet (fail)
  go_wp2_with (fail)
  refine (H68.out _ _ _ (ka.keep (below_drewN (Below.refl _ _) _)) (kb.keep (below_drewN (Below.refl _ _) _))).mono ?_
  rintro e w11 ⟨rfl, hb11⟩
  have b11 := below_at (below_drewN b2 _) (Nat.le_refl _) hb11
  have ka_11 := (ka.keep (below_drewN (Below.refl _ _) _)).keep hb11
  have kb_11 := (kb.keep (below_drewN (Below.refl _ _) _)).keep hb11
  go_wp2_with (fail)
  refine (H40.out _ _ _ ka_11 kb_11).mono ?_
  rintro e w12 ⟨rfl, rfl⟩
  go_wp2_with (fail)
  refine (H53.out _ _ ka_11).mono ?_
  rintro e w13 ⟨vp, rfl, hvp, hb13⟩
  have b13 := below_at b11 (Nat.le_refl _) hb13
  have kb_13 := kb_11.keep hb13
  have kp_13 := hvp
  go_wp2_with (fail)
  refine (H53b.out _ _ kb_13).mono ?_
  rintro e w14 ⟨vq, rfl, hvq, hb14⟩
  have b14 := below_at b13 (Nat.le_refl _) hb14
  have kp_14 := kp_13.keep hb14
  have kq_14 := hvq
  go_wp2_with (fail)
  refine (H42.out _ _ _ kp_14 kq_14).mono ?_
  rintro e w15 ⟨rfl, hb15⟩
  have b15 := below_at b14 (Nat.le_refl _) hb15
  go_wp2_with (fail)
  refine (lives_any _).mono ?_
  rintro e w16 ⟨rfl, hb16⟩
  have b16 := below_at b15 (Nat.le_refl _) hb16
  go_wp2
  go_ret
  exact ⟨rfl, b16⟩

/-- The law NatFits, for whatever limbs and exponents. -/
theorem natfits_walk (A A1 : Option Addr) (c c1 L L1 : Nat) (n k : Int) (xs ys : List Nat) (w : World) (hA : Nums .u32 w A xs) (hA1 : Nums .u32 w A1 ys) (hL : L = xs.length) (hL1 : L1 = ys.length) (hc : L ≤ c) (hc1 : L1 ≤ c1) (hnil : A = none → c = 0) (hnil1 : A1 = none → c1 = 0) (hlow : Low B32 xs) (hlow1 : Low B32 ys) : Calls Try.prog 14 #[.agg #[.slice A L c, .int .i64 n], .agg #[.slice A1 L1 c1, .int .i64 k]] w (LivesPost w) := by
  by_cases h0 : chk2 (xs.take 4) (ys.take 4) = 0
  · have h1 : chk (xs.take 4) = 0 ∧ chk (ys.take 4) = 0 := by
      unfold chk2 at h0
      split at h0
      · rename_i h; exact ⟨h, h0⟩
      · rename_i h; exact absurd h0 h
    have hm := chk_zero (hlow.take 4) h1.1
    have hm1 := chk_zero (hlow1.take 4) h1.2
    have sn : n < 0 ∨ (0 ≤ n ∧ n ≤ 40) ∨ 40 < n := by omega
    have sk : k < 0 ∨ (0 ≤ k ∧ k ≤ 40) ∨ 40 < k := by omega
    rcases sn with hn | hn | hn
    · rcases sk with hk | hk | hk
      · exact natfits_neg_neg A A1 c c1 L L1 n k xs ys w hA hA1 hL hL1 hc hc1 hnil hnil1 _ _ hm hm1 hn hk
      · exact natfits_neg_small A A1 c c1 L L1 n k xs ys w hA hA1 hL hL1 hc hc1 hnil hnil1 _ _ hm hm1 hn k.toNat (by omega) (by omega)
      · exact natfits_neg_mod A A1 c c1 L L1 n k xs ys w hA hA1 hL hL1 hc hc1 hnil hnil1 _ _ hm hm1 hn (k % 41).toNat (by omega) hk (by omega)
    · rcases sk with hk | hk | hk
      · exact natfits_small_neg A A1 c c1 L L1 n k xs ys w hA hA1 hL hL1 hc hc1 hnil hnil1 _ _ hm hm1 n.toNat (by omega) (by omega) hk
      · exact natfits_small_small A A1 c c1 L L1 n k xs ys w hA hA1 hL hL1 hc hc1 hnil hnil1 _ _ hm hm1 n.toNat (by omega) (by omega) k.toNat (by omega) (by omega)
      · exact natfits_small_mod A A1 c c1 L L1 n k xs ys w hA hA1 hL hL1 hc hc1 hnil hnil1 _ _ hm hm1 n.toNat (by omega) (by omega) (k % 41).toNat (by omega) hk (by omega)
    · rcases sk with hk | hk | hk
      · exact natfits_mod_neg A A1 c c1 L L1 n k xs ys w hA hA1 hL hL1 hc hc1 hnil hnil1 _ _ hm hm1 (n % 41).toNat (by omega) hn (by omega) hk
      · exact natfits_mod_small A A1 c c1 L L1 n k xs ys w hA hA1 hL hL1 hc hc1 hnil hnil1 _ _ hm hm1 (n % 41).toNat (by omega) hn (by omega) k.toNat (by omega) (by omega)
      · exact natfits_mod_mod A A1 c c1 L L1 n k xs ys w hA hA1 hL hL1 hc hc1 hnil hnil1 _ _ hm hm1 (n % 41).toNat (by omega) hn (by omega) (k % 41).toNat (by omega) hk (by omega)
  · rcases Int.lt_or_le 40 n with hn | hn
    · rcases Int.lt_or_le 40 k with hk | hk
      · exact natfits_bad_gt_gt A A1 c c1 L L1 n k xs ys w hA hA1 hL hL1 hc hc1 hnil hnil1 h0 hn hk
      · exact natfits_bad_gt_le A A1 c c1 L L1 n k xs ys w hA hA1 hL hL1 hc hc1 hnil hnil1 h0 hn hk
    · rcases Int.lt_or_le 40 k with hk | hk
      · exact natfits_bad_le_gt A A1 c c1 L L1 n k xs ys w hA hA1 hL hL1 hc hc1 hnil hnil1 h0 hn hk
      · exact natfits_bad_le_le A A1 c c1 L L1 n k xs ys w hA hA1 hL hL1 hc hc1 hnil hnil1 h0 hn hk
end Go.Proofs.Ytaegkhdkhgemmaa
