/- least: the lexicographically least assignment that the prices prove. -/
import Derived.Test.YtncmfjncdhhjoaaWTig
import Derived.Test.YtncmfjncdhhjoaaWStk
import Derived.Test.YtncmfjncdhhjoaaWNewP
namespace Go.Proofs.Ytncmfjncdhhjoaa
open Go.RowKit

def LeastPost (w : World) (n m : Nat) (c : Nat → Nat → Int) (u v : Nat → Int) (e : Ending) (w' : World) : Prop :=
  ∃ (g : Nat) (to : Nat → Nat), e = .returned (.slice (some ⟨g, 0, none⟩) n n) ∧ w.heap.size ≤ g ∧ Blk 3 w' g (fl (fun i => (to i : Int)) n) ∧
    LexMin n m c to ∧ Proof n m c u v to ∧ costN c to n = sumN u n + sumN v m ∧ Below w.heap.size w w'

set_option maxHeartbeats 4000000 in
set_option maxRecDepth 100000 in
theorem least_any (B p gu gv go n m cT : Nat) (A : Option Addr) (ls : List (List Int)) (u v o : Nat → Int) (Bd : Int) (w : World)
    (hP : PrM B w p gu gv go (.slice A n cT) n m u v o) (F : Fair n m (cst ls) u v o Bd) (G : Good n m ls) (T : Tab B w A ls) (hBw : B ≤ w.heap.size)
    (hall : ∀ q : Nat, Has m o q ↔ q < n) (h1 : 1 ≤ m) (hm : m ≤ 64) (hn : n ≤ 64) (hBd : 0 ≤ Bd ∧ Bd ≤ 4096000000000) :
    Calls Try.prog 54 #[.pointer (some ⟨p, 0, none⟩)] w (LeastPost w n m (cst ls) u v) := by
  have hlt := hP.lt
  have HP := Lib.hid hP
  have HF := Lib.hid F
  have HG := Lib.hid G
  have HT := Lib.hid T
  have HA := Lib.hid hall
  clear hP F G T hall
  have hmk := fun W => makeI n hn W
  go_enter Try.func54, Try.ntmps54
  go_wp2_with (first
    | (go_at_call 74; refine (tight_any B p gu gv go n m _ u v o _ HP.out).mono ?_; rintro e w1 ⟨b, rfl, hb1, hb2, hb3, hl1⟩
       have hPp := HP.out.keep hl1 hlt
       have p0 : w1.cell? ⟨p, 0, none⟩ = some (.slice A n cT) := hPp.box.cell 0
       clear hPp)
    | (go_at_call 59; refine (newPairing_any _ _ _ m h1 hm _).mono ?_; rintro e w2 ⟨pp, ho, hk, hs, rfl, hPa, hl2⟩
       have hPp := HP.out.keep (below_on hl1 hl1.size hl2) hlt
       have p0 : w2.cell? ⟨p, 0, none⟩ = some (.slice A n cT) := hPp.box.cell 0
       have p3 : w2.cell? ⟨p, 3, none⟩ = some (.slice (some ⟨go, 0, none⟩) m m) := hPp.box.cell 3
       clear hPp))
  have hl3 := below_on hl1 hl1.size hl2
  have hmay : ∀ W, Below w1.heap.size w1 W → ∀ row k, True → k < m → Calls Try.prog 81 #[.int .i64 ((row : Nat) : Int), .int .i64 ((k : Nat) : Int), .pointer (some ⟨b, 0, none⟩)] W fun e w' => e = .returned (.bool (tightT n (cst ls) u v row k)) ∧ Below W.heap.size W w' := fun W hW row k _ hk =>
    tightC_any B b p gu gv go n m cT row k A ls u v o W ((hW.cell (p := ⟨b, 0, none⟩) hb2).trans hb3) (HP.out.keep (below_on hl1 hl1.size hW) hlt) HG.out (HT.out.keep ((below_on hl1 hl1.size hW).mono hBw)) hk
      (fun i hi => by have := HF.out.pos i hi; omega) (fun k hk => by have := HF.out.neg k hk; omega)
  have HMAY := Lib.hid hmay
  have hfar := hPa.far
  clear hmay
  go_wp2_with (fail)
  go_loopw [4, 5, 6, 22] (fun sp _ _ t wr => ∃ k : Nat, k ≤ m ∧ t = .int .i64 (k : Int) ∧ sp = .int .i64 ((n : Int) + (cntF o k : Int)) ∧
    PaM [] w1.heap.size wr pp ho hk hs (.func (.func 81) #[] #[.pointer (some ⟨b, 0, none⟩)]) m (parI k (spareO n o) (fun _ => -1)) (fun _ => false) (fun _ => false) ∧ Below w1.heap.size w1 wr) (fun _ _ _ t _ => m - (intOf t).toNat)
  case atStart => exact ⟨0, Nat.zero_le _, rfl, by simp [cntF], by rw [parI_zero]; exact hPa, hl2⟩
  case round =>
    clear hPa hl2 hl3 p0 p3
    obtain ⟨k, hkm, rfl, rfl, hPa, hl2⟩ := hrel
    have hPp := HP.out.keep (below_on hl1 hl1.size hl2) hlt
    by_cases hlk : k < m
    · have co := hPp.own.int hlk
      have q2 : wr.cell? ⟨pp, 2, none⟩ = some (.slice (some ⟨ho, 0, none⟩) m m) := hPa.box.cell 2
      have ch := hPa.own.int hlk
      have fh := hPa.own.frozen k
      have hcn : cntF o k ≤ 64 := by
        have := cntF_mono (o := o) (i := k) (j := m) (by omega)
        have := (cnt_all HF.out.inj fun q hq => (HA.out q).2 hq).1
        omega
      by_cases hok : o k = -1
      · rw [hok] at co
        have hPn : PaM [] w1.heap.size (wr.setCell ⟨ho, k, none⟩ (.int .i64 ((n : Int) + (cntF o k : Int)))) pp ho hk hs (.func (.func 81) #[] #[.pointer (some ⟨b, 0, none⟩)]) m (parI (k + 1) (spareO n o) (fun _ => -1)) (fun _ => false) (fun _ => false) := by
          have h := hPa.setO k ((n : Int) + (cntF o k : Int))
          rwa [parI_upd (show spareO n o k = (n : Int) + (cntF o k : Int) by unfold spareO; rw [if_pos hok])] at h
        have hcs : cntF o (k + 1) = cntF o k + 1 := by simp only [cntF]; rw [if_pos hok]
        have HPN := Lib.hid hPn
        have HCS := Lib.hid hcs
        clear hPn hcs hok hPa hPp
        generalize cntF o k = cn at *
        have hw1 : IntKind.i64.wrap ((n : Int) + (cn : Int) + 1) = (n : Int) + (cn : Int) + 1 := wrapI (by omega) (by omega)
        go_wp2
        go_roundw
        case rel => exact ⟨k + 1, by omega, by go_num, by rw [HCS.out]; simp; omega, HPN.out, below_set hl2 (by omega) _⟩
        case measure => simp [intOf]; omega
      · have hPn : PaM [] w1.heap.size (wr.setCell ⟨ho, k, none⟩ (.int .i64 (o k))) pp ho hk hs (.func (.func 81) #[] #[.pointer (some ⟨b, 0, none⟩)]) m (parI (k + 1) (spareO n o) (fun _ => -1)) (fun _ => false) (fun _ => false) := by
          have h := hPa.setO k (o k)
          rwa [parI_upd (show spareO n o k = o k by unfold spareO; rw [if_neg hok])] at h
        have hcs : cntF o (k + 1) = cntF o k := by simp only [cntF]; rw [if_neg hok]; rfl
        have hne : (o k == -1) = false := by simpa using hok
        have HPN := Lib.hid hPn
        have HCS := Lib.hid hcs
        clear hPn hcs hPa hPp
        generalize cntF o k = cn at *
        generalize o k = x at *
        go_wp2
        go_roundw
        case rel => exact ⟨k + 1, by omega, by go_num, by rw [HCS.out], HPN.out, below_set hl2 (by omega) _⟩
        case measure => simp [intOf]; omega
    · obtain rfl : k = m := by omega
      have p0 : wr.cell? ⟨p, 0, none⟩ = some (.slice A n cT) := hPp.box.cell 0
      have hS0 : Setl k (tightT n (cst ls) u v) (spareO n o) (fun _ => false) (fun _ => 0) 0 :=
        ⟨spare_perf HF.out fun q hq => (HA.out q).2 hq, fun j _ h => by simp at h, fun a h => by omega, fun a h => by omega⟩
      have hPs : PaM [] w1.heap.size wr pp ho hk hs (.func (.func 81) #[] #[.pointer (some ⟨b, 0, none⟩)]) k (spareO n o) (fun _ => false) (fun _ => false) :=
        ⟨hPa.box, by have := hPa.own; rwa [parI_full] at this, hPa.kept, hPa.seen, hPa.far, hPa.ext⟩
      have hsz := hl2.size
      have hgt : wr.heap.size ≠ pp ∧ wr.heap.size ≠ ho ∧ wr.heap.size ≠ hk ∧ wr.heap.size ≠ hs := by
        have := hPa.box.lt; have := hPa.own.lt; have := hPa.kept.lt; have := hPa.seen.lt
        omega
      have hPg := (hPs.keepAll (below_new wr (.cells (Array.replicate n (.int .i64 0)) 3))).more (blk_madeI n wr) hgt
      have hlg : Below w1.heap.size w1 (wr.alloc (.cells (Array.replicate n (.int .i64 0)) 3)) := bel_alloc hl2 hsz
      have hwg : w.heap.size ≤ wr.heap.size := by have := hl1.size; omega
      have hw1g : w1.heap.size ≤ wr.heap.size := hsz
      have HPG := Lib.hid hPg
      have HS0 := Lib.hid hS0
      clear hS0 hPs hPg hPa hPp hsz hgt
      go_wp2_with (fail)
      have hnk : n ≤ k := (cnt_all HF.out.inj fun q hq => (HA.out q).2 hq).2
      generalize hgt : wr.heap.size = gt at *
      generalize wr.alloc (.cells (Array.replicate n (.int .i64 0)) 3) = W at *
      go_loopw [8, 48] (fun _ t wz => ∃ (i : Nat) (o1 : Nat → Int) (kp s : Nat → Bool) (to : Nat → Nat) (tf : Nat → Int), i ≤ n ∧ t = .int .i64 (i : Int) ∧ Hid (Setl k (tightT n (cst ls) u v) o1 kp to i) ∧ Hid (∀ j, j < i → tf j = (to j : Int)) ∧
        PaM [(gt, fl tf n)] w1.heap.size wz pp ho hk hs (.func (.func 81) #[] #[.pointer (some ⟨b, 0, none⟩)]) k o1 kp s ∧ Below w1.heap.size w1 wz) (fun _ t _ => n - (intOf t).toNat)
      case atStart => exact ⟨0, _, _, _, _, _, Nat.zero_le _, rfl, HS0, Lib.hid (fun j hj => by omega), HPG.out, hlg⟩
      case round =>
        clear HPG HS0 hlg p0 hl2
        obtain ⟨i, o1, kp, s, to, tf, hi, rfl, HS, HTF, hPa, hl4⟩ := hrel
        by_cases hlt2 : i < n
        · have HST := Lib.hid (settle_any [(gt, fl tf n)] w1.heap.size pp ho hk hs k i (.pointer (some ⟨b, 0, none⟩)) kp (tightT n (cst ls) u v) w1 hm HMAY.out o1 s to wr hl4 HS.out (by omega) hPa)
          clear hPa
          go_wp2_with (go_at_call 75; refine (HST.out).mono ?_; rintro e w5 ⟨o2, s2, z, rfl, hz, hS2, hP2, hl5⟩
                       have ct := hP2.one.1.int hlt2
                       have ft := hP2.one.1.frozen i)
          have hPn := hP2.setX i (z : Int)
          have htf : ∀ j, j < i + 1 → upd tf i (z : Int) j = ((upd to i z j : Nat) : Int) := fun j hj => by
            unfold upd; split
            · rfl
            · exact HTF.out j (by omega)
          have HPN := Lib.hid hPn
          have HTF2 := Lib.hid htf
          have HS2 := Lib.hid hS2
          have hl6 := below_set (hl4.trans hl5) hw1g (i := i) (.int .i64 (z : Int))
          clear hPn htf hS2 hP2
          go_wp2
          go_roundw
          case rel => exact ⟨i + 1, o2, _, s2, _, _, by omega, by go_num, HS2, HTF2, HPN.out, hl6⟩
          case measure => simp [intOf]; omega
        · obtain rfl : i = n := by omega
          obtain ⟨r1, r2, r3⟩ := lexmin_of HF.out (fun q hq => (HA.out q).2 hq) HS.out
          have hbt := hPa.one.1
          rw [fl_congr HTF.out] at hbt
          have R1 := Lib.hid r1
          have R2 := Lib.hid r2
          have R3 := Lib.hid r3
          have HBT := Lib.hid hbt
          clear r1 r2 r3 hbt hPa
          go_wp2
          go_ret
          exact ⟨gt, to, rfl, hwg, HBT.out, R1.out, R2.out, R3.out, below_on hl1 hl1.size hl4⟩

end Go.Proofs.Ytncmfjncdhhjoaa
