/- New. -/
import Derived.Test.YtpaemlkikkcjiaaWDo
import Derived.Deep.RegionHeld3
namespace Go.Proofs.Ytpaemlkikkcjiaa
open Go.RowKit

def levZ (K : Nat) : Array Value := madeCells zLev.cells (K * 14)
theorem makeZ (K : Nat) (h : K ≤ 64) (w : World) : (Instr.makeSlice 91 (.int .i64 (K : Int)) (.int .i64 (K : Int))).run Try.prog w = .ok (.slice (some ⟨w.heap.size, 0, none⟩) K K) (w.alloc (.cells (levZ K) 112)) := makeL K h w
def NewPost (keys sp : Int) (rs : List Rg) (w : World) (e : Ending) (w' : World) : Prop :=
  Below w.heap.size w w' ∧ ((newB keys sp rs = false ∧ e = .returned (.tuple #[.pointer none, .int .i64 1])) ∨
    ∃ (K p gl cl gr cr : Nat), newB keys sp rs = true ∧ keys = (K : Int) ∧ OkMk (mkOf K sp rs) ∧ e = .returned (.tuple #[.pointer (some ⟨p, 0, none⟩), .int .i64 0]) ∧
      w.heap.size ≤ p ∧ w.heap.size ≤ gl ∧ w.heap.size ≤ gr ∧ MacM w' p gl cl gr cr (mkOf K sp rs) (msOf rs))
theorem new_end {W : World} {K gl gr cr p n : Nat} {sp : Int} {rs : List Rg} (hgl : Blk 112 W gl (levZ K).toList) (hgr : Hd 84 W gr (cr * 4) (rgL rs)) (hp : Blk 93 W p [.int .i64 0, .int .i64 sp, .slice (some ⟨gl, 0, none⟩) K K, .slice (some ⟨gr, 0, none⟩) n cr]) (hn : n = rs.length)
    (ne : p ≠ gl ∧ p ≠ gr ∧ gl ≠ gr) : MacM W p gl K gr cr (mkOf K sp rs) (msOf rs) := by
  subst hn
  refine ⟨hp, ?_, ?_, ne⟩
  · unfold levZ at hgl
    rw [lev_made K (msOf rs) (fun _ => rfl) (fun _ => rfl) (fun _ _ => rfl)] at hgl
    have := Hd.of_blk hgl
    rwa [levL_len] at this
  · rw [regL_of]; exact hgr
set_option maxHeartbeats 4000000 in
set_option maxRecDepth 100000 in
theorem new_ok (K n c : Nat) (sp : Int) (ad : Addr) (rs : List Rg) (w : World) (hA : Vals w (some ad) (rgL rs)) (hn : n = rs.length) (hb : newB (K : Int) sp rs = true) :
    Calls Try.prog 38 #[.int .i64 (K : Int), .int .i64 sp, .slice (some ad) n c] w (NewPost (K : Int) sp rs w) := by
  have hb' := hb
  unfold newB at hb'
  simp only [Bool.and_eq_true] at hb'
  obtain ⟨h1, h2, h3, h4⟩ := hb'
  have hk := inB_t h1
  have hl := inB_t h3
  rw [← hn] at h3 hl
  have hw1 := within_any (K : Int) 1 64
  have hw2 := within_any sp 1 1000
  have hw3 := within_any (n : Int) 1 4
  have har := areRegs_any (some ad) c n rs w hA hn (by omega)
  rw [h1] at hw1; rw [h2] at hw2; rw [h3] at hw3; rw [h4] at har
  have hmk := fun W => makeZ K (by omega) W
  have hcl := fun W (h : Below w.heap.size w W) => cloneR_any ad n c (rgL rs) W (hA.keep h) (by rw [rgL_len, hn]) (rgL_one rs) (by omega)
  obtain ⟨K', hK', hok⟩ := newB_ok hb
  have hKK : K' = K := by omega
  subst hKK
  have HW1 := Lib.hid hw1
  have HW2 := Lib.hid hw2
  have HW3 := Lib.hid hw3
  have HAR := Lib.hid har
  have HCL := Lib.hid hcl
  have HOK := Lib.hid hok
  have HB := Lib.hid hb
  have HN := Lib.hid hn
  clear hw1 hw2 hw3 har hcl hA h1 h2 h3 h4 hok hb hK' hn
  go_enter Try.func38, Try.ntmps38
  go_upto_region 4 with (first
    | (go_at_call 61; (with_reducible refine (HW1.out _).mono ?_); rintro e w1 ⟨rfl, rfl⟩)
    | (go_at_call 61; (with_reducible refine (HW2.out _).mono ?_); rintro e w1 ⟨rfl, rfl⟩)
    | (go_at_call 61; (with_reducible refine (HW3.out _).mono ?_); rintro e w1 ⟨rfl, rfl⟩)
    | (go_at_call 66; refine (HAR.out).mono ?_; rintro e w2 ⟨rfl, hb2⟩))
  have c1 := HCL.out w2.drew hb2.drew
  have c2 := HCL.out (w2.alloc (.cells (levZ K') 112)).drew ((below_on hb2 hb2.size (below_new _ _)).drew)
  have HC1 := Lib.hid c1
  have HC2 := Lib.hid c2
  clear c1 c2
  go_region_held3 (fun _ => True) (exact trivial)
    (first
      | (go_at_call 67; (with_reducible refine (HC1.out).mono ?_); rintro e w3 ⟨v, rfl, ⟨g, cap, rfl, hg, hcap, _, _, hH⟩, hb3⟩)
      | (go_at_call 67; (with_reducible refine (HC2.out).mono ?_); rintro e w3 ⟨v, rfl, ⟨g, cap, rfl, hg, hcap, _, _, hH⟩, hb3⟩))
  · go_wp2
    go_ret2
    have kz : Blk 112 (w2.alloc (.cells (levZ K') 112)).drew w2.heap.size (levZ K').toList := (Blk.new w2 112 (levZ K').toList).drew
    have sz : (w2.alloc (.cells (levZ K') 112)).drew.heap.size = w2.heap.size + 1 := by simp
    have bz := (below_on hb2 hb2.size (below_new w2 (.cells (levZ K') 112))).drew
    generalize (w2.alloc (.cells (levZ K') 112)).drew = V at *
    have bz3 := below_on bz bz.size hb3
    have hbx := below_new w3 (.cells #[.int .i64 0, .int .i64 sp, .slice (some ⟨w2.heap.size, 0, none⟩) K' K', .slice (some ⟨g, 0, none⟩) n cap] 93)
    have hp : Blk 93 (w3.alloc (.cells #[.int .i64 0, .int .i64 sp, .slice (some ⟨w2.heap.size, 0, none⟩) K' K', .slice (some ⟨g, 0, none⟩) n cap] 93)) w3.heap.size [.int .i64 0, .int .i64 sp, .slice (some ⟨w2.heap.size, 0, none⟩) K' K', .slice (some ⟨g, 0, none⟩) n cap] := Blk.new w3 93 [_, _, _, _]
    have k1 := (kz.keep hb3).keep hbx
    have k2 := hH.keep hbx
    have l1 := (kz.keep hb3).lt
    have l2 := hH.lt
    have s1 := hb2.size
    have s2 := bz3.size
    refine ⟨below_on bz3 bz3.size hbx, .inr ⟨K', _, _, K', g, cap, HB.out, rfl, HOK.out, rfl, s2, s1, by omega, new_end k1 k2 hp HN.out ⟨by omega, by omega, by omega⟩⟩⟩
  · go_wp2
    go_ret2
    have bz := hb2.drew
    have sz : w2.drew.heap.size = w2.heap.size := by simp
    generalize w2.drew = V at *
    have bz3 := below_on bz bz.size hb3
    have kz : Blk 112 (w3.alloc (.cells (levZ K') 112)) w3.heap.size (levZ K').toList := Blk.new w3 112 (levZ K').toList
    have hb4 := below_new w3 (.cells (levZ K') 112)
    have k2 := hH.keep hb4
    have l2 := hH.lt
    have sz4 : (w3.alloc (.cells (levZ K') 112)).heap.size = w3.heap.size + 1 := by simp
    have bz4 := below_on bz3 bz3.size hb4
    rw [← sz4]
    generalize w3.alloc (.cells (levZ K') 112) = w4 at *
    have hbx := below_new w4 (.cells #[.int .i64 0, .int .i64 sp, .slice (some ⟨w3.heap.size, 0, none⟩) K' K', .slice (some ⟨g, 0, none⟩) n cap] 93)
    have hp : Blk 93 (w4.alloc (.cells #[.int .i64 0, .int .i64 sp, .slice (some ⟨w3.heap.size, 0, none⟩) K' K', .slice (some ⟨g, 0, none⟩) n cap] 93)) w4.heap.size [.int .i64 0, .int .i64 sp, .slice (some ⟨w3.heap.size, 0, none⟩) K' K', .slice (some ⟨g, 0, none⟩) n cap] := Blk.new w4 93 [_, _, _, _]
    have s2 := bz3.size
    have s1 := hb2.size
    refine ⟨below_on bz4 bz4.size hbx, .inr ⟨K', _, _, K', g, cap, HB.out, rfl, HOK.out, rfl, by omega, s2, by omega, new_end (kz.keep hbx) (k2.keep hbx) hp HN.out ⟨by omega, by omega, by omega⟩⟩⟩
end Go.Proofs.Ytpaemlkikkcjiaa
