/- withFloor; newRaising; heights. -/
import Derived.Test.YtpaemlkikkcjiaaACl
import Derived.BigRegion
namespace Go.Proofs.Ytpaemlkikkcjiaa
open Go.RowKit

theorem floorT_succ (n : Nat) : floorT (n + 1) = floorT n ++ [⟨-1, (n : Int), 0⟩] := by simp [floorT, List.range_succ]
theorem OwnR.alloc {B T k : Nat} {w : World} {v : Value} {n : Nat} {vs : List Value} (h : OwnR B T k w v n vs) (o : Obj) : OwnR B T k (w.alloc o) v n vs := h.keep (below_new w o)
theorem own_lift {B T k : Nat} {w : World} {v : Value} {n : Nat} {vs : List Value} (h : OwnR B T k w v n vs) : w.ownsRow B T k v n vs ∧ v ≠ .slice none 0 0 := by
  refine ⟨hd_own h, ?_⟩
  obtain ⟨g, cap, e, _⟩ := h
  rw [e]; intro h; injection h with h; cases h
theorem own_block {B T k : Nat} {w : World} {v : Value} {n : Nat} {vs : List Value} (h : OwnR B T k w v n vs) : ∀ b, v.ownBlock = some b → B ≤ b := by
  obtain ⟨g, cap, e, h1, _⟩ := h
  rw [e]
  intro b hb
  simp [Value.ownBlock] at hb
  omega

set_option maxHeartbeats 2000000 in
set_option maxRecDepth 100000 in
theorem withFloor_any (n L c : Nat) (ad : Addr) (ts : List T3) (w : World) (hA : TiesAt w (some ad) ts) (hL : L = ts.length) (hn : n ≤ 64) (hLs : L ≤ 100000) :
    Calls Try.prog 56 #[.int .i64 (n : Int), .slice (some ad) L c] w fun e w' => ∃ v, e = .returned v ∧ OwnR w.heap.size 39 3 w' v (L + n) (tc (allT n ts)) ∧ Below w.heap.size w w' := by
  have hcl := cloneT_any ad L c (tc ts) w hA (by rw [tc_len, hL]) (tc_one ts) (by omega)
  obtain ⟨i0, hi, hz0, hz1, hz2⟩ := info_parts infoTie
  have HCL := Lib.hid hcl
  clear hcl hA hL
  go_enter Try.func56, Try.ntmps56
  go_wp2_with (go_at_call 76; refine (HCL.out).mono ?_; rintro e w1 ⟨v, rfl, hO, hb⟩)
  have HO := Lib.hid hO
  clear hO HCL
  go_loopw [5, 6, 10] (fun v _ t wr => ∃ i : Nat, i ≤ n ∧ t = .int .i64 (i : Int) ∧ OwnR w.heap.size 39 3 wr v (L + i) (tc (ts ++ floorT i)) ∧ Below w.heap.size w wr) (fun _ _ t _ => n - (intOf t).toNat)
  case atStart => exact ⟨0, Nat.zero_le _, rfl, by have : ts ++ floorT 0 = ts := by simp [floorT]
                                                   rw [this]; exact HO.out, hb⟩
  case round =>
    clear HO hb
    obtain ⟨i, hi', rfl, hO, hb⟩ := hrel
    by_cases hlt : i < n
    · have hO1 : OwnR w.heap.size 39 3 (wr.alloc (.cells #[.int .i64 (-1), .int .i64 (i : Int), .int .i64 0] 39)) u5 (L + i) (tc (ts ++ floorT i)) := hO.alloc _
      have hx : Blk 39 (wr.alloc (.cells #[.int .i64 (-1), .int .i64 (i : Int), .int .i64 0] 39)) wr.heap.size [.int .i64 (-1), .int .i64 (i : Int), .int .i64 0] := Blk.new wr 39 _
      have hbl := below_on hb hb.size (below_new wr (.cells #[.int .i64 (-1), .int .i64 (i : Int), .int .i64 0] 39))
      have ho := own_lift hO1
      have hbk := own_block hO1
      have hxv := hx.vals0
      have HX := Lib.hid hxv
      have HO1 := Lib.hid ho.1
      have HNE := ho.2
      clear hO hb hO1 hx hxv ho
      have hsz := hbl.size
      go_wp2_with (at_builtin
                   refine wpList_append_own _ rfl _ _ 22 rfl w.heap.size 39 i0 zTie 3 24 Try.underlying22 hi hz0 hz1 hz2 rfl (by decide) _ _ _ rfl HO1.out ⟨wr.heap.size, 0, none⟩ 1 _ [.int .i64 (-1), .int .i64 (i : Int), .int .i64 0] rfl ?c1 (vals_cells HX.out) ?c2 ?c4 ?c5 ?c6 ?_)
      case c1 => rfl
      case c2 => intro v hv; simp at hv; rcases hv with rfl | rfl | rfl <;> rfl
      case c4 => unfold maxLen; omega
      case c5 => omega
      case c6 => exact hsz
      intro v' w2 hown hgr hne
      have hres := own_hd hown (by first | (intro e; exact HNE (hne.1 e).1) | simpa using hne | exact fun e => hne e)
      have hb2 := hbl.grown hgr hsz hbk
      have happ : tc (ts ++ floorT i) ++ [.int .i64 (-1), .int .i64 (i : Int), .int .i64 0] = tc (ts ++ floorT (i + 1)) := by rw [floorT_succ, ← List.append_assoc, tc_append (ts ++ floorT i)]; rfl
      rw [happ] at hres
      have HR := Lib.hid hres
      clear hres hown hgr happ hne
      go_wp2
      go_roundw
      case rel => exact ⟨i + 1, by omega, by go_num, HR.out, hb2⟩
      case measure => simp [intOf]; omega
    · obtain rfl : i = n := by omega
      go_wp2
      go_ret
      exact ⟨_, rfl, hO, hb⟩

theorem blk_fl0 (n : Nat) (w : World) : Blk 3 (w.alloc (.cells (Array.replicate n (.int .i64 0)) 3)) w.heap.size (fl (fun _ => 0) n) := by
  rw [fl_const]
  have := Blk.new w 3 (List.replicate n (.int .i64 0))
  simpa using this
theorem makeI (n : Nat) (h : n ≤ 1000) (w : World) : (Instr.makeSlice 24 (.int .i64 (n : Int)) (.int .i64 (n : Int))).run Try.prog w = .ok (.slice (some ⟨w.heap.size, 0, none⟩) n n) (w.alloc (.cells (Array.replicate n (.int .i64 0)) 3)) :=
  run_make_same 24 3 (.int .i64 0) (.int .i64 0) 1 8 Try.underlying24 infoInt rfl (by omega) n n (by omega) (by omega) (by omega) w

theorem ra_new (w : World) (B gt c n : Nat) (ts : List T3) (gh gb L : Nat) (hA : TiesAt w (some ⟨gt, 0, none⟩) ts) (hL : L = ts.length) (hg : B ≤ gt) (hgw : gt < w.heap.size) (hB : B ≤ w.heap.size)
    (hor : (gh = w.heap.size ∧ gb = w.heap.size + 1) ∨ (gh = w.heap.size + 1 ∧ gb = w.heap.size)) :
    ∃ p gh' gb', Ending.returned (.pointer (some ⟨w.heap.size + 1 + 1, 0, none⟩)) = .returned (.pointer (some ⟨p, 0, none⟩)) ∧
      RaM B ((((w.alloc (.cells (Array.replicate (n + 1) (.int .i64 0)) 3)).alloc (.cells (Array.replicate (n + 1) (.int .i64 0)) 3)).alloc
        (.cells #[.slice (some ⟨gt, 0, none⟩) L c, .slice (some ⟨gh, 0, none⟩) (n + 1) (n + 1), .slice (some ⟨gb, 0, none⟩) (n + 1) (n + 1)] 119)).drew) p gt c gh' gb' n ts (fun _ => 0) (fun _ => 0) ∧
      Below w.heap.size w ((((w.alloc (.cells (Array.replicate (n + 1) (.int .i64 0)) 3)).alloc (.cells (Array.replicate (n + 1) (.int .i64 0)) 3)).alloc
        (.cells #[.slice (some ⟨gt, 0, none⟩) L c, .slice (some ⟨gh, 0, none⟩) (n + 1) (n + 1), .slice (some ⟨gb, 0, none⟩) (n + 1) (n + 1)] 119)).drew) := by
  subst hL
  have b1 := below_new w (.cells (Array.replicate (n + 1) (.int .i64 0)) 3)
  have k1 := blk_fl0 (n + 1) w
  have s1 : (w.alloc (.cells (Array.replicate (n + 1) (.int .i64 0)) 3)).heap.size = w.heap.size + 1 := by simp
  generalize w.alloc (.cells (Array.replicate (n + 1) (.int .i64 0)) 3) = w1 at *
  have b2 := below_new w1 (.cells (Array.replicate (n + 1) (.int .i64 0)) 3)
  have k2 := blk_fl0 (n + 1) w1
  have s2 : (w1.alloc (.cells (Array.replicate (n + 1) (.int .i64 0)) 3)).heap.size = w.heap.size + 2 := by simp [s1]
  have k1' := k1.keep b2
  rw [s1] at k2
  generalize w1.alloc (.cells (Array.replicate (n + 1) (.int .i64 0)) 3) = w2 at *
  have b12 := below_on b1 b1.size b2
  generalize hb : (Obj.cells #[.slice (some ⟨gt, 0, none⟩) ts.length c, .slice (some ⟨gh, 0, none⟩) (n + 1) (n + 1), .slice (some ⟨gb, 0, none⟩) (n + 1) (n + 1)] 119) = o
  have b3 := below_new w2 o
  have k3 : Blk 119 (w2.alloc o) w2.heap.size [.slice (some ⟨gt, 0, none⟩) ts.length c, .slice (some ⟨gh, 0, none⟩) (n + 1) (n + 1), .slice (some ⟨gb, 0, none⟩) (n + 1) (n + 1)] := by rw [← hb]; exact Blk.new w2 119 _
  have k1'' := k1'.keep b3
  have k2'' := k2.keep b3
  rw [s2] at k3
  have hsz : (w2.alloc o).heap.size = w.heap.size + 3 := by simp [s2]
  have bb := below_on b12 b12.size b3
  have ht : TiesAt (w2.alloc o) (some ⟨gt, 0, none⟩) ts := hA.keep bb
  rcases hor with ⟨rfl, rfl⟩ | ⟨rfl, rfl⟩
  · exact ⟨_, _, _, rfl, ⟨k3, ht, k1'', k2'', ⟨by omega, hg, by omega, by omega, by simp only [heap_drew]; omega, by omega, by omega, by omega, by omega, by omega⟩⟩, bb.drew⟩
  · exact ⟨_, _, _, rfl, ⟨k3, ht, k2'', k1'', ⟨by omega, hg, by omega, by omega, by simp only [heap_drew]; omega, by omega, by omega, by omega, by omega, by omega⟩⟩, bb.drew⟩

set_option maxHeartbeats 2000000 in
set_option maxRecDepth 100000 in
theorem newRaising_any (B n L gt c : Nat) (ts : List T3) (w : World) (hA : TiesAt w (some ⟨gt, 0, none⟩) ts) (hL : L = ts.length) (hn : n ≤ 64) (hg : B ≤ gt) (hgw : gt < w.heap.size) (hB : B ≤ w.heap.size) :
    Calls Try.prog 55 #[.int .i64 (n : Int), .slice (some ⟨gt, 0, none⟩) L c] w fun e w' => ∃ p gh gb, e = .returned (.pointer (some ⟨p, 0, none⟩)) ∧ RaM B w' p gt c gh gb n ts (fun _ => 0) (fun _ => 0) ∧ Below w.heap.size w w' := by
  have hmk : ∀ W, (Instr.makeSlice 24 (.int .i64 ((n : Int) + 1)) (.int .i64 ((n : Int) + 1))).run Try.prog W = .ok (.slice (some ⟨W.heap.size, 0, none⟩) (n + 1) (n + 1)) (W.alloc (.cells (Array.replicate (n + 1) (.int .i64 0)) 3)) := fun W => makeI (n + 1) (by omega) W
  have hw : IntKind.i64.wrap ((n : Int) + 1) = (n : Int) + 1 := wrapI (by omega) (by omega)
  have HA := Lib.hid hA
  have HL := Lib.hid hL
  clear hA hL
  go_enter Try.func55, Try.ntmps55
  go_wp2_with (fail)
  go_region
  all_goals
    go_wp2
    go_ret
    first
      | exact ra_new w B gt c n ts _ _ L HA.out HL.out hg hgw hB (.inl ⟨rfl, rfl⟩)
      | exact ra_new w B gt c n ts _ _ L HA.out HL.out hg hgw hB (.inr ⟨rfl, rfl⟩)
end Go.Proofs.Ytpaemlkikkcjiaa
