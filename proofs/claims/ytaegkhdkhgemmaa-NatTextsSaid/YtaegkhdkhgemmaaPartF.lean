/- Part of the proof of NatTexts: GiveW, Give, MulSub, GcdLaws, Lead, KarLaws, KarW, Kara, KarQ, Blk, MulAll, ApLaws. -/
import Derived.RangeFuncNested
import Derived.RangeFuncBound
import Derived.RangeFuncCalls
import Derived.RangeFuncLeaves
import Derived.Shelf.Abstract
import Derived.Shelf.RegionOpen
import Derived.WalkKit
import Derived.OwnWalkIn
import Derived.TacticsInMore
import Derived.LoopNIn
import Derived.LoopIn
import Derived.Test.YtaegkhdkhgemmaaPartE
import Derived.Test.YtaegkhdkhgemmaaPartB
import Derived.Test.YtaegkhdkhgemmaaPartC
import Derived.Test.YtaegkhdkhgemmaaPartD
import Derived.Laws.Rows
import Derived.StillTailTactics
/- giveWord: the digits of one word, given to the yield of a loop. -/
namespace Go.Proofs.Ytaegkhdkhgemmaa
open Go.RowKit Go.Shelf Num
attribute [local go_sem] Oper.semAt_some

theorem room_of_none {F : Fence} (hd : F.depth = none) (k : Nat) : F.room k := fun d h => by rw [hd] at h; cases h
theorem RoundIn.anyDepth {F : Fence} (hd : F.depth = none) {m m' : Nat} {P : Program} {l : Nat} {f : FuncId} {tmps : Array Value} {assign body : Code} {w : World} {R : Ending → World → Prop}
    (h : RoundIn F m P l f tmps assign body w R) : RoundIn F m' P l f tmps assign body w R := ⟨h.1, fun c cs _ => h.2 c cs (room_of_none hd _)⟩
theorem YieldAt.anyDepth {F : Fence} (hd : F.depth = none) {m : Nat} (m' : Nat) {P : Program} {l : Nat} {args : Array Value} {W : World} {R : Ending → World → Prop} (h : YieldAt F m P l args W R) : YieldAt F m' P l args W R := by
  obtain ⟨fn, tmps, assign, body, hy, hR⟩ := h
  exact ⟨fn, tmps, assign, body, hy, RoundIn.anyDepth hd hR⟩

/-- A digit in base b. -/
def fd (b : Nat) (hb : 2 ≤ b) (x : Nat) : Fin b := ⟨x % b, Nat.mod_lt _ (by omega)⟩
def fds (b : Nat) (hb : 2 ≤ b) (xs : List Nat) : List (Fin b) := xs.map (fd b hb)
theorem fds_cons (b : Nat) (hb : 2 ≤ b) (x : Nat) (xs : List Nat) : fds b hb (x :: xs) = fd b hb x :: fds b hb xs := rfl
theorem fds_append (b : Nat) (hb : 2 ≤ b) (xs ys : List Nat) : fds b hb (xs ++ ys) = fds b hb xs ++ fds b hb ys := List.map_append
theorem fds_len (b : Nat) (hb : 2 ≤ b) (xs : List Nat) : (fds b hb xs).length = xs.length := List.length_map ..

/-- What a loop's yield owes: it goes on and keeps what it must, or it has said no more. -/
def YieldOk (F : Fence) (R : World → Nat → Prop) (b l N : Nat) (J Jx : List (Fin b) → World → Prop) : Prop :=
  ∀ (m : Nat) (pre : List (Fin b)) (x : Fin b) (W : World), J pre W → pre.length < N → YieldAt F m Try.prog l #[.int .u32 ((x.val : Nat) : Int)] W fun e W' =>
    (e = .returned (.bool true) ∧ J (pre ++ [x]) W' ∧ KpS R W W') ∨ (e = .returned (.bool false) ∧ Jx (pre ++ [x]) W')

/-- What the giver owes: all of ds was given, or a part of it and then no more. -/
def Gave (R : World → Nat → Prop) (b : Nat) (J Jx : List (Fin b) → World → Prop) (pre ds : List (Fin b)) (W : World) (e : Ending) (W' : World) : Prop :=
  (e = .returned (.bool true) ∧ J (pre ++ ds) W' ∧ KpS R W W') ∨ (e = .returned (.bool false) ∧ ∃ q, q <+: ds ∧ Jx (pre ++ q) W')

theorem abides_below {β : Type} {B : Nat} {J : β → World → Prop} (h : AbidesFrom B J) {s : β} {A C : World} (hj : J s A) (hb : Below A.heap.size A C) : J s C :=
  h s A C none hj ⟨hb.os, hb.tape, hb.output, hb.size, fun k hk _ => hb.block k hk⟩ (fun r e => by cases e)

set_option maxHeartbeats 2000000 in
set_option maxRecDepth 100000 in
theorem giveWord_in (F : Fence) (hF : Free F Try.prog) (hro : F.round = none)
    {R : World → Nat → Prop} {n₀ b count l gp K cap N B0 : Nat} {U : Nat → Nat} (hb : 2 ≤ b) (hcount : count ≤ 64) (hbb : b ≤ B32) {J Jx : List (Fin b) → World → Prop} (hJ : AbidesFrom B0 J) (hY : YieldOk F R b l N J Jx) (hR : RB R n₀)
    (n gb : Nat) (v : Value) (m : Nat) (follow : Bool) (pre : List (Fin b)) (W : World) (hn₀ : n₀ ≤ W.heap.size) (hG : Giv R W gb b count l gp K cap U) (hv : W64 W v m) (hm : m < b ^ count) (hmw : m < B64) (h0 : J pre W) (hN : pre.length + (outs b count m follow).length ≤ N) :
    CallsIn F n Try.prog 123 #[.pointer (some ⟨gb, 0, none⟩), v, .bool follow] W (Gave R b J Jx pre (fds b hb (outs b count m follow)) W) := by
  have hfn := hF.fn
  have hdd := hF.room
  have hwin : ∀ n w', W64 w' v m → CallsIn F n Try.prog 77 #[v, .int .i64 0] w' fun e w'' => e = .returned (.int .u64 (m : Int)) ∧ w' = w'' := fun n w' h => by
    obtain ⟨A, c, rfl, _, hA⟩ := h
    have hl : (dig B64 m).length ≤ 1 := dig_len_le b64_two (by rw [Nat.pow_one]; exact hmw)
    have := window_any A c _ m 0 w' hA rfl (by omega) (by omega)
    rw [Nat.pow_zero, Nat.div_one, Nat.mod_eq_of_lt hmw] at this
    exact hF.calls _ _ _ _ _ this
  have HW := Lib.hid hwin
  have HV := Lib.hid hv
  have HN := Lib.hid hN
  have HM := Lib.hid hm
  have c1 := hG.c1
  obtain ⟨A, c, rfl, _⟩ := hv
  generalize hL : (dig B64 m).length = L at *
  clear hwin hN hm hL
  refine callsIn_of_wp Try.func123 rfl (hF.fn _) ?_ hro
  simp only [Try.ntmps123, List.size_toArray, List.length_cons, List.length_nil, Nat.reduceAdd, Nat.reduceSub, Array.replicate_succ, Array.replicate_zero, List.push_toArray, List.append_toArray, List.nil_append, List.cons_append]
  gi_wp2_with ((try refine ⟨hdd _, ?_⟩); gi_at_call 77; refine (HW.out _ _ HV.out).mono ?_; rintro e w1 ⟨rfl, rfl⟩)
  gi_loopw [7, 14] (fun t7 t14 wr => ∃ (i v' : Nat) (done : List (Fin b)), i ≤ count ∧ t14 = .int .i64 (i : Int) ∧ t7 = .int .u64 (v' : Int) ∧ v' < b ^ (count - i) ∧ v' < B64 ∧ fds b hb (outs b count m follow) = done ++ fds b hb (outs b (count - i) v' follow) ∧ J (pre ++ done) wr ∧ KpS R W wr) (fun _ t _ => count - (intOf t).toNat)
  case atStart => exact ⟨0, m, [], Nat.zero_le _, rfl, rfl, by simpa using HM.out, hmw, by simp, by simpa using h0, KpS.refl _⟩
  case round =>
    obtain ⟨i, v', done, hi, rfl, rfl, hv1, hv2, hds, hj, hk⟩ := hrel
    have hG' := hG.kp hk
    have g0 := hG'.c0
    have g3 := hG'.c3
    have g0' : wr.drew.cell? ⟨gb, 0, none⟩ = some (.int .u64 (b : Int)) := g0
    have g3' : wr.drew.cell? ⟨gb, 3, none⟩ = some (.func (.yield l) #[] #[]) := g3
    have hb0 : ¬ ((b : Int) = 0) := by omega
    have hb0' : ¬ b = 0 := by omega
    rcases Nat.lt_or_ge i count with hlt | hge
    · obtain ⟨kk, hkk⟩ : ∃ kk, count - i = kk + 1 := ⟨count - i - 1, by omega⟩
      rw [hkk] at hv1 hds
      have hlt' : (i : Int) < (count : Int) := by omega
      have hi64 : (i : Int) + 1 ≤ 64 := by omega
      by_cases hstop : v' = 0 ∧ follow = false
      · obtain ⟨rfl, rfl⟩ := hstop
        rw [outs_stop, show fds b hb [] = [] from rfl, List.append_nil] at hds
        have HDS := Lib.hid hds
        clear hds hv1
        gi_wp2
        go_ret
        refine .inl ⟨rfl, ?_, hk⟩
        rw [HDS.out]; exact hj
      · have hst : v' ≠ 0 ∨ follow = true := by
          rcases Nat.eq_zero_or_pos v' with h | h
          · right
            cases follow with
            | true => rfl
            | false => exact absurd ⟨h, rfl⟩ hstop
          · left; omega
        rw [outs_step b kk v' follow hb hst, fds_cons] at hds
        obtain ⟨D, hD⟩ : ∃ D, v' % b = D := ⟨_, rfl⟩
        have hDb : D < b := by rw [← hD]; exact Nat.mod_lt _ (by omega)
        have hDm : D % b = D := Nat.mod_eq_of_lt hDb
        have hmod : ((v' : Int) % (b : Int)) = (D : Int) := by rw [← hD]; omega
        have htmod : (v' : Int).tmod (b : Int) = (D : Int) := by rw [Int.tmod_eq_emod_of_nonneg (by omega)]; exact hmod
        have hwr : IntKind.u32.wrap (D : Int) = (D : Int) := by
          have h1 : D < 4294967296 := Nat.lt_of_lt_of_le hDb hbb
          rw [IntKind.wrap_u32']; omega
        rw [hD] at hds
        have hyy : ∃ fn tmps assign body, (Instr.yield l #[.int .u32 (D : Int)]).run Try.prog wr.drew = .ok (.round l fn tmps assign body) wr.drew ∧ RoundIn F (n - 1) Try.prog l fn tmps assign body wr.drew fun e W' => ∃ y : Bool, e = .returned (.bool y) ∧ ((y = true ∧ J (pre ++ done ++ [fd b hb D]) W' ∧ KpS R wr W') ∨ (y = false ∧ Jx (pre ++ done ++ [fd b hb D]) W')) := by
          have hd1 : Below wr.heap.size wr wr.drew := ⟨rfl, rfl, rfl, Nat.le_refl _, fun _ _ => rfl⟩
          have hj' := abides_below hJ hj hd1
          have hlen : (pre ++ done).length < N := by
            have := HN.out
            have h2 := congrArg List.length hds
            rw [fds_len, List.length_append, List.length_cons] at h2
            rw [List.length_append]; omega
          have := hY (n - 1) (pre ++ done) (fd b hb D) wr.drew hj' hlen
          rw [show ((fd b hb D).val : Nat) = D from hDm] at this
          refine YieldAt.mono this ?_
          rintro e W' (⟨rfl, h1, h2⟩ | ⟨rfl, h1⟩)
          · exact ⟨true, rfl, .inl ⟨rfl, h1, kpS_t (KpS.of_below hR (Nat.le_trans hn₀ hk.1) hd1) h2⟩⟩
          · exact ⟨false, rfl, .inr ⟨rfl, h1⟩⟩
        obtain ⟨fn, tmps, assign, body, hy, hRd⟩ := hyy
        have HDS := Lib.hid hds
        have HST := Lib.hid hst
        have HV1 := Lib.hid hv1
        have hfol : follow = true ∨ follow = false := by cases follow <;> simp
        clear hds hstop hst hv1 hD hDb hDm
        have fin : ∀ (W3 : World) (y : Bool), ((y = true ∧ J (pre ++ done ++ [fd b hb D]) W3 ∧ KpS R wr W3) ∨ (y = false ∧ Jx (pre ++ done ++ [fd b hb D]) W3)) →
            (y = true ∧ J (pre ++ (done ++ [fd b hb D])) W3 ∧ KpS R W W3 ∧ W3.cell? ⟨gb, 0, none⟩ = some (.int .u64 (b : Int))) ∨ (y = false ∧ ∃ q, q <+: fds b hb (outs b count m follow) ∧ Jx (pre ++ q) W3) := by
          rintro W3 y (⟨rfl, h1, h2⟩ | ⟨rfl, h1⟩)
          · exact .inl ⟨rfl, by rwa [List.append_assoc] at h1, kpS_t hk h2, (hG'.kp h2).c0⟩
          · refine .inr ⟨rfl, done ++ [fd b hb D], ?_, by rwa [List.append_assoc] at h1⟩
            rw [HDS.out, show fd b hb D :: fds b hb (outs b kk (v' / b) follow) = [fd b hb D] ++ fds b hb (outs b kk (v' / b) follow) from rfl, ← List.append_assoc]
            exact List.prefix_append _ _
        have FIN := Lib.hid fin
        clear fin
        obtain ⟨Q, hQ⟩ : ∃ Q, v' / b = Q := ⟨_, rfl⟩
        have htdiv : (v' : Int).tdiv (b : Int) = (Q : Int) := by rw [Int.tdiv_eq_ediv_of_nonneg (by omega), ← hQ]; omega
        have hq : ((v' : Int) / (b : Int)) = (Q : Int) := by rw [← hQ]; omega
        have hwq : IntKind.u64.wrap (Q : Int) = (Q : Int) := by
          have h1 : Q < B64 := by rw [← hQ]; exact Nat.lt_of_le_of_lt (Nat.div_le_self _ _) hv2
          unfold B64 at h1
          rw [IntKind.wrap_u64]; omega
        have HQ := Lib.hid hQ
        clear hQ
        clear hfol
        by_cases hz : v' = 0
        · have hzb : ((v' : Int) == 0) = true := by simp; omega
          obtain rfl : follow = true := by rcases HST.out with h | h; exact absurd hz h; exact h
          have HZ := Lib.hid hz
          clear hz
          gi_wp2
          refine wpIn_region_still_tail 11 hF (by kernel_rfl) (by kernel_rfl) (by kernel_rfl) ?_
          simp only [List.take_succ_cons, List.take_zero, List.drop_succ_cons, List.drop_zero]
          change wpStill _ _ wr.drew _ _ _
          repeat still_step
          refine wpStill_nil ?_
          change wpListIn _ _ _ _ _ _ _ wr.drew
          gi_wp2_with ((try refine ⟨hdd _, ?_⟩); refine hRd.mono ?_; rintro e W3 ⟨y, rfl, hy3⟩; rcases FIN.out W3 y hy3 with ⟨rfl, hj3, hk3, g03⟩ | ⟨rfl, hx⟩)
          · go_roundw
            case rel => exact ⟨i + 1, Q, done ++ [fd b hb D], by omega, rfl, rfl, by
                rw [← HQ.out]
                have := HV1.out
                rw [show count - (i + 1) = kk by omega]
                rw [Nat.pow_succ] at this
                exact Nat.div_lt_of_lt_mul (by rw [Nat.mul_comm]; exact this), by rw [← HQ.out]; exact Nat.lt_of_le_of_lt (Nat.div_le_self _ _) hv2, by
                rw [show count - (i + 1) = kk by omega, ← HQ.out, HDS.out, List.append_assoc]; rfl, hj3, hk3⟩
            case measure => simp only [intOf]; omega
          · go_ret
            exact .inr ⟨rfl, hx⟩
        · have hz' : ¬ ((v' : Int) = 0) := by omega
          gi_wp2
          refine wpIn_region_still_tail 11 hF (by kernel_rfl) (by kernel_rfl) (by kernel_rfl) ?_
          simp only [List.take_succ_cons, List.take_zero, List.drop_succ_cons, List.drop_zero]
          change wpStill _ _ wr.drew _ _ _
          repeat still_step
          refine wpStill_nil ?_
          change wpListIn _ _ _ _ _ _ _ wr.drew
          gi_wp2_with ((try refine ⟨hdd _, ?_⟩); refine hRd.mono ?_; rintro e W3 ⟨y, rfl, hy3⟩; rcases FIN.out W3 y hy3 with ⟨rfl, hj3, hk3, g03⟩ | ⟨rfl, hx⟩)
          · go_roundw
            case rel => exact ⟨i + 1, Q, done ++ [fd b hb D], by omega, rfl, rfl, by
                rw [← HQ.out]
                have := HV1.out
                rw [show count - (i + 1) = kk by omega]
                rw [Nat.pow_succ] at this
                exact Nat.div_lt_of_lt_mul (by rw [Nat.mul_comm]; exact this), by rw [← HQ.out]; exact Nat.lt_of_le_of_lt (Nat.div_le_self _ _) hv2, by
                rw [show count - (i + 1) = kk by omega, ← HQ.out, HDS.out, List.append_assoc]; rfl, hj3, hk3⟩
            case measure => simp only [intOf]; omega
          · go_ret
            exact .inr ⟨rfl, hx⟩
    · have hi' : i = count := by omega
      have hge' : ¬ (i : Int) < (count : Int) := by omega
      rw [show count - i = 0 by omega, Nat.pow_zero] at hv1
      rw [show count - i = 0 by omega, outs_end b v' follow (by omega), show fds b hb [] = [] from rfl, List.append_nil] at hds
      have HDS := Lib.hid hds
      clear hds hv1
      gi_wp2
      go_ret
      refine .inl ⟨rfl, ?_, hk⟩
      rw [HDS.out]; exact hj
end Go.Proofs.Ytaegkhdkhgemmaa

/- give: the digits of a number, half by half. -/
namespace Go.Proofs.Ytaegkhdkhgemmaa
open Go.RowKit Go.Shelf Num
attribute [local go_sem] Oper.semAt_some

def Upow (b count i : Nat) : Nat := b ^ (count * 2 ^ i)
theorem upow_sq (b count i : Nat) : Upow b count (i + 1) = Upow b count i * Upow b count i := by
  unfold Upow; rw [← Nat.pow_add]; congr 1; rw [Nat.pow_succ, ← Nat.mul_assoc]; omega

/-- What is asked of a division by one of the powers. -/
def DivsBy (b count K : Nat) : Prop := ∀ i, i < K → ∀ (v u : Value) (m : Nat) (w : World), W64 w v m → W64 w u (Upow b count i) → m < Upow b count (i + 1) → Calls Try.prog 88 #[v, u] w (DivQPost w (m / Upow b count i) (m % Upow b count i))

set_option maxHeartbeats 4000000 in
set_option maxRecDepth 100000 in
theorem give_in (F : Fence) (hF : Free F Try.prog) (hro : F.round = none)
    {R : World → Nat → Prop} {n₀ b count l gp K cap N B0 : Nat} (hb : 2 ≤ b) (hcount : count ≤ 64) (hK : K ≤ 1000) (hcap : K ≤ cap) (hbb : b ≤ B32) (hu : b ^ count < B64) {J Jx : List (Fin b) → World → Prop} (hJ : AbidesFrom B0 J) (hY : YieldOk F R b l N J Jx) (hR : RB R n₀)
    (hdv : DivsBy b count K) (gb : Nat) : ∀ (j : Nat), j ≤ K → ∀ (lev : Int) (n : Nat) (v : Value) (m : Nat) (follow : Bool) (pre : List (Fin b)) (W : World), lev = (j : Int) - 1 → n₀ ≤ W.heap.size → Giv R W gb b count l gp K cap (Upow b count) → W64 W v m → m < b ^ (count * 2 ^ j) → J pre W → pre.length + (outs b (count * 2 ^ j) m follow).length ≤ N →
    CallsIn F n Try.prog 105 #[.pointer (some ⟨gb, 0, none⟩), v, .int .i64 lev, .bool follow] W (Gave R b J Jx pre (fds b hb (outs b (count * 2 ^ j) m follow)) W) := by
  intro j
  induction j with
  | zero =>
    intro _ lev n v m follow pre W hlev hn hG hv hm h0 hN
    have hl : lev < 0 := by omega
    rw [Nat.pow_zero, Nat.mul_one] at hm hN ⊢
    have hfn := hF.fn
    have hdd := hF.room
    have hw := giveWord_in F hF hro hb hcount hbb hJ hY hR (n - 1) gb v m follow pre W hn hG hv hm (Nat.lt_trans hm hu) h0 hN
    generalize fds b hb (outs b count m follow) = ds at *
    have HW := Lib.hid hw
    clear hw hN hm
    obtain ⟨A, c, rfl, _⟩ := hv
    generalize (dig B64 m).length = L at *
    refine callsIn_of_wp Try.func105 rfl (hF.fn _) ?_ hro
    simp only [Try.ntmps105, List.size_toArray, List.length_cons, List.length_nil, Nat.reduceAdd, Nat.reduceSub, Array.replicate_succ, Array.replicate_zero, List.push_toArray, List.append_toArray, List.nil_append, List.cons_append]
    gi_wp2_with ((try refine ⟨hdd _, ?_⟩); gi_at_call 123; refine HW.out.mono ?_; rintro e w1 (⟨rfl, h1, h2⟩ | ⟨rfl, h1⟩))
    · go_ret
      exact .inl ⟨rfl, h1, h2⟩
    · go_ret
      exact .inr ⟨rfl, h1⟩
  | succ j ih =>
    intro hjK lev n v m follow pre W hlev hn hG hv hm h0 hN
    obtain rfl : lev = (j : Int) := by omega
    clear hlev
    have hfn := hF.fn
    have hdd := hF.room
    have e2 : count * 2 ^ (j + 1) = count * 2 ^ j + count * 2 ^ j := by rw [Nat.pow_succ, ← Nat.mul_assoc]; omega
    rw [e2] at hm hN ⊢
    have hub : 0 < b ^ (count * 2 ^ j) := Nat.pow_pos (by omega)
    have hqm : m / b ^ (count * 2 ^ j) < b ^ (count * 2 ^ j) := Nat.div_lt_of_lt_mul (by rw [← Nat.pow_add]; exact hm)
    have hrm : m % b ^ (count * 2 ^ j) < b ^ (count * 2 ^ j) := Nat.mod_lt _ hub
    obtain ⟨vp, hcp, hvp⟩ := hG.power (i := j) (by omega)
    have hd := hdv j (by omega) v vp m W hv hvp.w64 (by unfold Upow; rw [e2]; exact hm)
    have c2 := hG.c2
    have hd' := hF.calls (n - 1) _ _ _ _ hd
    have IH := Lib.hid (ih (by omega))
    clear ih
    have hq0 : ∀ W1 x, W64 W1 x (m / b ^ (count * 2 ^ j)) → ∃ A c, x = .slice A (dig B64 (m / b ^ (count * 2 ^ j))).length c := fun W1 x h => by
      obtain ⟨A, c, e, _⟩ := h; exact ⟨A, c, e⟩
    -- behind the division
    have hdv1 : CallsIn F (n - 1) Try.prog 88 #[v, vp] W fun e W1 => ∃ x u, e = .returned (.tuple #[x, u]) ∧ (∃ A c, x = .slice A (dig B64 (m / b ^ (count * 2 ^ j))).length c) ∧ (∃ A c, u = .slice A (dig B64 (m % b ^ (count * 2 ^ j))).length c) ∧
        KNum R W1 x (m / b ^ (count * 2 ^ j)) ∧ W64 W1 u (m % b ^ (count * 2 ^ j)) ∧ KpS R W W1 ∧ J pre W1 := hd'.mono (by
      rintro e W1 ⟨x, u, rfl, h1, h2, h3, h4⟩
      refine ⟨x, u, rfl, ?_, ?_, KNum.of h1 (h4.mono hn) hR hG.good h3, h2, KpS.of_below hR hn h4, abides_below hJ h0 h4⟩
      · obtain ⟨A, c, e, _⟩ := h1; exact ⟨A, c, e⟩
      · obtain ⟨A, c, e, _⟩ := h2; exact ⟨A, c, e⟩)
    clear hd hd' hq0
    have HD := Lib.hid hdv1
    clear hdv1
    have hcell := hcp
    obtain ⟨Ap, cp, rfl, _⟩ := hvp
    have HV := Lib.hid hv
    obtain ⟨A, c, rfl, _⟩ := hv
    have hjK' : (j : Int) < (K : Int) := by omega
    have hj0 : ¬ ((j : Int) < 0) := by omega
    have hj1 : (j : Int) ≤ 1000 := by omega
    have hcapj : j < cap := by omega
    by_cases hz : m / b ^ (count * 2 ^ j) = 0 ∧ follow = false
    · obtain ⟨hz, rfl⟩ := hz
      rw [outs_low_half b _ m hz hb] at hN ⊢
      rw [hz, dig_zero, List.length_nil] at HD
      have HN := Lib.hid hN
      clear hN hm hz e2 hcp hub
      refine callsIn_of_wp Try.func105 rfl (hF.fn _) ?_ hro
      simp only [Try.ntmps105, List.size_toArray, List.length_cons, List.length_nil, Nat.reduceAdd, Nat.reduceSub, Array.replicate_succ, Array.replicate_zero, List.push_toArray, List.append_toArray, List.nil_append, List.cons_append]
      gi_wp2_with (first
        | ((try refine ⟨hdd _, ?_⟩); gi_at_call 88; refine HD.out.mono ?_; rintro e W1 ⟨x, u, rfl, ⟨Ax, cx, rfl⟩, ⟨Au, cu, rfl⟩, hx, hu', hk1, hj1⟩)
        | ((try refine ⟨hdd _, ?_⟩); gi_at_call 105; refine (IH.out _ _ _ _ _ _ _ rfl (Nat.le_trans hn hk1.1) (hG.kp hk1) hu' hrm hj1 HN.out).mono ?_; rintro e W2 (⟨rfl, h1, h2⟩ | ⟨rfl, h1⟩)))
      · go_ret
        exact .inl ⟨rfl, h1, kpS_t hk1 h2⟩
      · go_ret
        exact .inr ⟨rfl, h1⟩
    · have hor : 0 < m / b ^ (count * 2 ^ j) ∨ follow = true := by
        rcases Nat.eq_zero_or_pos (m / b ^ (count * 2 ^ j)) with h | h
        · right
          cases follow with
          | true => rfl
          | false => exact absurd ⟨h, rfl⟩ hz
        · exact .inl h
      rw [outs_halves b _ m follow hb hor] at hN ⊢
      rw [fds_append]
      rw [List.length_append] at hN
      have hN1 : pre.length + (outs b (count * 2 ^ j) (m % b ^ (count * 2 ^ j)) true).length ≤ N := by omega
      have hN2 : (pre ++ fds b hb (outs b (count * 2 ^ j) (m % b ^ (count * 2 ^ j)) true)).length + (outs b (count * 2 ^ j) (m / b ^ (count * 2 ^ j)) follow).length ≤ N := by
        rw [List.length_append, fds_len]; omega
      have HN1 := Lib.hid hN1
      have HN2 := Lib.hid hN2
      clear hN hN1 hN2 hm e2 hcp hub hz
      rcases Nat.eq_zero_or_pos (m / b ^ (count * 2 ^ j)) with hq | hq
      · obtain rfl : follow = true := by rcases hor with h | h; omega; exact h
        rw [hq] at HD HN2 hqm ⊢
        rw [dig_zero, List.length_nil] at HD
        clear hq hor
        refine callsIn_of_wp Try.func105 rfl (hF.fn _) ?_ hro
        simp only [Try.ntmps105, List.size_toArray, List.length_cons, List.length_nil, Nat.reduceAdd, Nat.reduceSub, Array.replicate_succ, Array.replicate_zero, List.push_toArray, List.append_toArray, List.nil_append, List.cons_append]
        gi_wp2_with (first
          | ((try refine ⟨hdd _, ?_⟩); gi_at_call 88; refine HD.out.mono ?_; rintro e W1 ⟨x, u, rfl, ⟨Ax, cx, rfl⟩, ⟨Au, cu, rfl⟩, hx, hu', hk1, hj1⟩
             have ih1 := IH.out _ (n - 1) _ _ true pre W1 rfl (Nat.le_trans hn hk1.1) (hG.kp hk1) hu' hrm hj1 HN1.out)
          | ((try refine ⟨hdd _, ?_⟩); gi_at_call 105; refine ih1.mono ?_; clear ih1; rintro e W2 (⟨rfl, hj2, hk2⟩ | ⟨rfl, q1, hq1, hx1⟩)))
        · refine ⟨hdd _, ?_⟩
          refine (IH.out _ (n - 1) _ _ true _ W2 rfl (Nat.le_trans hn (Nat.le_trans hk1.1 hk2.1)) (hG.kp (kpS_t hk1 hk2)) (hx.kp (hk1.good hG.good) hk2).w64 hqm hj2 HN2.out).mono ?_
          rintro e W3 (⟨rfl, hj3, hk3⟩ | ⟨rfl, q2, hq2, hx2⟩)
          · gi_wp2
            go_ret
            refine .inl ⟨rfl, ?_, kpS_t (kpS_t hk1 hk2) hk3⟩
            rw [← List.append_assoc]
            exact hj3
          · gi_wp2
            go_ret
            refine .inr ⟨rfl, _ ++ q2, (List.prefix_append_right_inj _).2 hq2, ?_⟩
            rw [← List.append_assoc]
            exact hx2
        · go_ret
          exact .inr ⟨rfl, q1, hq1.trans (List.prefix_append _ _), hx1⟩
      · have hql : ¬ ((dig B64 (m / b ^ (count * 2 ^ j))).length = 0) := by
          have := dig_len_pos (n := m / b ^ (count * 2 ^ j)) (by omega)
          omega
        clear hq hor
        refine callsIn_of_wp Try.func105 rfl (hF.fn _) ?_ hro
        simp only [Try.ntmps105, List.size_toArray, List.length_cons, List.length_nil, Nat.reduceAdd, Nat.reduceSub, Array.replicate_succ, Array.replicate_zero, List.push_toArray, List.append_toArray, List.nil_append, List.cons_append]
        gi_wp2_with (first
          | ((try refine ⟨hdd _, ?_⟩); gi_at_call 88; refine HD.out.mono ?_; rintro e W1 ⟨x, u, rfl, ⟨Ax, cx, rfl⟩, ⟨Au, cu, rfl⟩, hx, hu', hk1, hj1⟩
             have ih1 := IH.out _ (n - 1) _ _ true pre W1 rfl (Nat.le_trans hn hk1.1) (hG.kp hk1) hu' hrm hj1 HN1.out)
          | ((try refine ⟨hdd _, ?_⟩); gi_at_call 105; refine ih1.mono ?_; clear ih1; rintro e W2 (⟨rfl, hj2, hk2⟩ | ⟨rfl, q1, hq1, hx1⟩)))
        · refine ⟨hdd _, ?_⟩
          refine (IH.out _ (n - 1) _ _ follow _ W2 rfl (Nat.le_trans hn (Nat.le_trans hk1.1 hk2.1)) (hG.kp (kpS_t hk1 hk2)) (hx.kp (hk1.good hG.good) hk2).w64 hqm hj2 HN2.out).mono ?_
          rintro e W3 (⟨rfl, hj3, hk3⟩ | ⟨rfl, q2, hq2, hx2⟩)
          · gi_wp2
            go_ret
            refine .inl ⟨rfl, ?_, kpS_t (kpS_t hk1 hk2) hk3⟩
            rw [← List.append_assoc]
            exact hj3
          · gi_wp2
            go_ret
            refine .inr ⟨rfl, _ ++ q2, (List.prefix_append_right_inj _).2 hq2, ?_⟩
            rw [← List.append_assoc]
            exact hx2
        · go_ret
          exact .inr ⟨rfl, q1, hq1.trans (List.prefix_append _ _), hx1⟩
end Go.Proofs.Ytaegkhdkhgemmaa

namespace Go.Proofs.Ytaegkhdkhgemmaa
open Go.RowKit Num

/-- A word that is read with a sign. -/
structure SgnW (o : Int) (ov : Nat) : Prop where
  lt : ov < B64
  le : -4611686018427387904 ≤ o ∧ o ≤ 4611686018427387904
  is : (0 ≤ o ∧ (ov : Int) = o) ∨ (o < 0 ∧ (ov : Int) = o + 18446744073709551616)
theorem SgnW.zero : SgnW 0 0 := ⟨b64_pos, by omega, .inl ⟨by omega, rfl⟩⟩

def MulSubPost (p v q x : Nat) (o : Int) (w : World) (e : Ending) (w' : World) : Prop :=
  ∃ (lo hi : Nat) (o' : Int), e = .returned (.tuple #[.int .u64 (lo : Int), .int .u64 (hi : Int)]) ∧ lo < B64 ∧ SgnW o' hi ∧ (p : Int) * v - (q : Int) * x + o = lo + 18446744073709551616 * o' ∧ w' = w

theorem mulSub_ex (p v q x : Nat) (o : Int) (ov : Nat) (hp : p ≤ 4611686018427387904) (hq : q ≤ 4611686018427387904) (hv : v < B64) (hx : x < B64) (ho : SgnW o ov) :
    ∃ hi lo hi2 lo2 lo3 b3 h3 c3 lo4 c4 h5 sg h6 : Nat, ∃ si : Int,
    (∀ w, Calls Try.prog 121 #[.int .u64 (p : Int), .int .u64 (v : Int)] w fun e w' => e = .returned (.tuple #[.int .u64 (hi : Int), .int .u64 (lo : Int)]) ∧ w = w') ∧
    (∀ w, Calls Try.prog 121 #[.int .u64 (q : Int), .int .u64 (x : Int)] w fun e w' => e = .returned (.tuple #[.int .u64 (hi2 : Int), .int .u64 (lo2 : Int)]) ∧ w = w') ∧
    (∀ w, (callFunc 126 #[.int .u64 (lo : Int), .int .u64 (lo2 : Int), .int .u64 0]).run Try.prog w = .ok (.value (.tuple #[.int .u64 (lo3 : Int), .int .u64 (b3 : Int)])) w) ∧
    (∀ w, (callFunc 126 #[.int .u64 (hi : Int), .int .u64 (hi2 : Int), .int .u64 (b3 : Int)]).run Try.prog w = .ok (.value (.tuple #[.int .u64 (h3 : Int), .int .u64 (c3 : Int)])) w) ∧
    (∀ w, (callFunc 122 #[.int .u64 (lo3 : Int), .int .u64 (ov : Int), .int .u64 0]).run Try.prog w = .ok (.value (.tuple #[.int .u64 (lo4 : Int), .int .u64 (c4 : Int)])) w) ∧
    IntKind.u64.wrap ((h3 : Int) + (c4 : Int)) = (h5 : Int) ∧
    IntKind.i64.wrap (ov : Int) = o ∧
    o / 9223372036854775808 = si ∧ IntKind.i64.wrap si = si ∧ IntKind.u64.wrap si = (sg : Int) ∧
    IntKind.u64.wrap ((h5 : Int) + (sg : Int)) = (h6 : Int) ∧
    lo4 < B64 ∧ ∃ o' : Int, SgnW o' h6 ∧ (p : Int) * v - (q : Int) * x + o = lo4 + 18446744073709551616 * o' := by
  obtain ⟨hi, lo, m1, e1, l1, _⟩ := mul64_ex p v (by unfold B64; omega) hv
  obtain ⟨hi2, lo2, m2, e2, l2, _⟩ := mul64_ex q x (by unfold B64; omega) hx
  obtain ⟨lo3, b3, m3, e3, l3, g3⟩ := sub64_ex0 lo lo2 l1 l2
  obtain ⟨h3, c3, m4, e4, l4, g4⟩ := sub64_ex hi hi2 b3 (by omega) (by omega) g3
  obtain ⟨lo4, c4, m5, e5, l5, g5⟩ := add64_ex0 lo3 ov l3 ho.lt
  have f1 : p * v ≤ 4611686018427387904 * 18446744073709551615 := Nat.mul_le_mul hp (by unfold B64 at hv; omega)
  have f2 : q * x ≤ 4611686018427387904 * 18446744073709551615 := Nat.mul_le_mul hq (by unfold B64 at hx; omega)
  have n1 : (p : Int) * v = ((p * v : Nat) : Int) := (Int.natCast_mul _ _).symm
  have n2 : (q : Int) * x = ((q * x : Nat) : Int) := (Int.natCast_mul _ _).symm
  obtain ⟨hlt, hle, his⟩ := ho
  rw [n1, n2]
  clear n1 n2
  generalize p * v = P at *
  generalize q * x = Q at *
  obtain ⟨n, hn⟩ : ∃ n : Nat, (n = 0 ∧ 0 ≤ o ∧ (ov : Int) = o) ∨ (n = 1 ∧ o < 0 ∧ (ov : Int) = o + 18446744073709551616) := by
    rcases his with h | h
    · exact ⟨0, .inl ⟨rfl, h⟩⟩
    · exact ⟨1, .inr ⟨rfl, h⟩⟩
  clear his
  refine ⟨hi, lo, hi2, lo2, lo3, b3, h3, c3, lo4, c4, (h3 + c4) % B64, n * 18446744073709551615, ((h3 + c4) % B64 + n * 18446744073709551615) % B64, -(n : Int), m1, m2, m3, m4, m5, ?_, ?_, ?_, ?_, ?_, ?_, l5, (hi : Int) - hi2 - b3 + c4 - n, ⟨Nat.mod_lt _ b64_pos, ?_, ?_⟩, ?_⟩
  all_goals clear m1 m2 m3 m4 m5
  all_goals unfold B64 at *
  · rw [IntKind.wrap_u64]; omega
  · rw [IntKind.wrap_i64]; omega
  · omega
  · rw [IntKind.wrap_i64]; omega
  · rw [IntKind.wrap_u64]; omega
  · rw [IntKind.wrap_u64]; omega
  · omega
  · rcases hn with ⟨rfl, hn, hn'⟩ | ⟨rfl, hn, hn'⟩
    · omega
    · omega
  · omega

set_option maxHeartbeats 1000000 in
set_option maxRecDepth 100000 in
theorem mulSub_any (p v q x : Nat) (o : Int) (ov : Nat) (hp : p ≤ 4611686018427387904) (hq : q ≤ 4611686018427387904) (hv : v < B64) (hx : x < B64) (ho : SgnW o ov) (w : World) :
    Calls Try.prog 137 #[.int .u64 (p : Int), .int .u64 (v : Int), .int .u64 (q : Int), .int .u64 (x : Int), .int .u64 (ov : Int)] w (MulSubPost p v q x o w) := by
  obtain ⟨hi, lo, hi2, lo2, lo3, b3, h3, c3, lo4, c4, h5, sg, h6, si, m1, m2, m3, m4, m5, k5, ki, ks, kj, kg, k6, hl, o', hs, he⟩ := mulSub_ex p v q x o ov hp hq hv hx ho
  have M1 := Lib.hid m1
  have M2 := Lib.hid m2
  have HE := Lib.hid he
  have HS := Lib.hid hs
  clear m1 m2 he hs ho hp hq hv hx
  go_enter Try.func137, Try.ntmps137
  go_wp2_with (fail)
  refine (M1.out _).mono ?_
  rintro e w' ⟨rfl, rfl⟩
  go_wp2_with (fail)
  refine (M2.out _).mono ?_
  rintro e w' ⟨rfl, rfl⟩
  go_wp2
  go_ret2
  exact ⟨lo4, h6, o', by go_num, hl, HS.out, HE.out, rfl⟩
end Go.Proofs.Ytaegkhdkhgemmaa

namespace Go.Proofs.Num

/-- Steps of Euclid that leading places decide: a, b the present pair, (p, q, s, t) how it is made of A, B, and x, y the leading places' own pair;
whatever places follow, a lies between (x+p)F and (x+q)F. M bounds all that is reckoned with. -/
structure Leh (A B : Nat) (F M x y p q s t : Int) (a b : Nat) : Prop where
  F0 : 0 < F
  xp : 0 ≤ x + p ∧ x + p ≤ M
  xq : 0 ≤ x + q ∧ x + q ≤ M
  ys : 0 ≤ y + s ∧ y + s ≤ M
  yt : 0 ≤ y + t ∧ y + t ≤ M
  isA : (a : Int) = p * A + q * B
  isB : (b : Int) = s * A + t * B
  gcd : Nat.gcd a b = Nat.gcd A B
  le : b ≤ a
  aA : a ≤ A
  bB : b ≤ B
  lt : (p = 1 ∧ q = 0 ∧ s = 0 ∧ t = 1) ∨ b < B
  side : (0 ≤ p ∧ q ≤ 0 ∧ s ≤ 0 ∧ 0 ≤ t ∧ (x + q) * F ≤ a ∧ (a : Int) ≤ (x + p) * F ∧ (y + s) * F ≤ b ∧ (b : Int) ≤ (y + t) * F) ∨
    (p ≤ 0 ∧ 0 ≤ q ∧ 0 ≤ s ∧ t ≤ 0 ∧ (x + p) * F ≤ a ∧ (a : Int) ≤ (x + q) * F ∧ (y + t) * F ≤ b ∧ (b : Int) ≤ (y + s) * F)

theorem Leh.start {A B F : Nat} (hF : 0 < F) (h : B ≤ A) : Leh A B F ((A / F : Nat) + 1) (A / F : Nat) (B / F : Nat) 1 0 0 1 A B := by
  have h1 := Nat.div_add_mod A F
  have h2 := Nat.div_add_mod B F
  have h3 := Nat.mod_lt A hF
  have h4 := Nat.mod_lt B hF
  have h5 : B / F ≤ A / F := Nat.div_le_div_right h
  rw [Nat.mul_comm] at h1 h2
  generalize A / F = X at *
  generalize B / F = Y at *
  generalize A % F = u at *
  generalize B % F = v at *
  refine ⟨by omega, by omega, by omega, by omega, by omega, by omega, by omega, rfl, h, Nat.le_refl _, Nat.le_refl _, .inl ⟨rfl, rfl, rfl, rfl⟩, .inl ⟨by omega, by omega, by omega, by omega, ?_, ?_, ?_, ?_⟩⟩
  · rw [Int.add_zero]; omega
  · rw [Int.add_mul]; omega
  · rw [Int.add_zero]; omega
  · rw [Int.add_mul]; omega

/-- One step, where both bounds give the same quotient. -/
theorem Leh.step {A B : Nat} {F M x y p q s t : Int} {a b : Nat} (h : Leh A B F M x y p q s t a b) (h1 : y + s ≠ 0) (h2 : y + t ≠ 0) {d : Int}
    (hd1 : d = (x + p) / (y + s)) (hd2 : d = (x + q) / (y + t)) :
    Leh A B F M y (x - d * y) s t (p - d * s) (q - d * t) b (a % b) ∧ 0 < b ∧ x - d * y < y := by
  obtain ⟨F0, xp, xq, ys, yt, isA, isB, gcd, le, aA, bB, lt, side⟩ := h
  have e1 := Int.emod_add_mul_ediv (x + p) (y + s)
  have e2 := Int.emod_add_mul_ediv (x + q) (y + t)
  rw [← hd1] at e1
  rw [← hd2] at e2
  have m1 := Int.emod_nonneg (x + p) h1
  have m2 := Int.emod_nonneg (x + q) h2
  have m3 := Int.emod_lt_of_pos (x + p) (show 0 < y + s by omega)
  have m4 := Int.emod_lt_of_pos (x + q) (show 0 < y + t by omega)
  have d0 : 0 ≤ d := by rw [hd1]; exact Int.ediv_nonneg xp.1 (by omega)
  generalize (x + p) % (y + s) = r1 at *
  generalize (x + q) % (y + t) = r2 at *
  clear hd1 hd2
  -- the bounds of b, times d
  have hb0 : 0 < b := by
    rcases side with ⟨_, _, _, _, _, _, h7, _⟩ | ⟨_, _, _, _, _, _, h7, _⟩
    · have := Int.mul_le_mul_of_nonneg_right (show 1 ≤ y + s by omega) (Int.le_of_lt F0); omega
    · have := Int.mul_le_mul_of_nonneg_right (show 1 ≤ y + t by omega) (Int.le_of_lt F0); omega
  have hdiv : (a : Int) = d * b + (a % b : Nat) := by
    have key : d * (b : Int) ≤ a ∧ (a : Int) < (d + 1) * b := by
      rcases side with ⟨_, _, _, _, h5, h6, h7, h8⟩ | ⟨_, _, _, _, h5, h6, h7, h8⟩
      · have k1 := Int.mul_le_mul_of_nonneg_left h8 d0
        have k2 := Int.mul_le_mul_of_nonneg_left h7 (show 0 ≤ d + 1 by omega)
        have k3 := Int.mul_le_mul_of_nonneg_right (show d * (y + t) ≤ x + q by rw [Int.mul_comm]; omega) (Int.le_of_lt F0)
        have k4 := Int.mul_lt_mul_of_pos_right (show x + p < (d + 1) * (y + s) by rw [Int.add_mul, Int.mul_comm d]; omega) F0
        rw [Int.mul_assoc] at k3 k4
        omega
      · have k1 := Int.mul_le_mul_of_nonneg_left h8 d0
        have k2 := Int.mul_le_mul_of_nonneg_left h7 (show 0 ≤ d + 1 by omega)
        have k3 := Int.mul_le_mul_of_nonneg_right (show d * (y + s) ≤ x + p by rw [Int.mul_comm]; omega) (Int.le_of_lt F0)
        have k4 := Int.mul_lt_mul_of_pos_right (show x + q < (d + 1) * (y + t) by rw [Int.add_mul, Int.mul_comm d]; omega) F0
        rw [Int.mul_assoc] at k3 k4
        omega
    have hq : (a : Int) / (b : Int) = d := by
      refine Int.le_antisymm ?_ ?_
      · exact Int.le_of_lt_add_one ((Int.ediv_lt_iff_lt_mul (by omega)).2 key.2)
      · exact (Int.le_ediv_iff_mul_le (by omega)).2 key.1
    have := Int.emod_add_mul_ediv (a : Int) (b : Int)
    rw [hq] at this
    rw [Int.natCast_emod]
    rw [Int.mul_comm] at this
    omega
  have hrb : a % b < b := Nat.mod_lt _ hb0
  have hg : Nat.gcd b (a % b) = Nat.gcd A B := by
    rw [← gcd, Nat.gcd_comm b, ← Nat.gcd_rec, Nat.gcd_comm]
  generalize a % b = c at *
  have n1 : (c : Int) = a - d * b := by omega
  have f1 : d * (y + s) = d * y + d * s := by rw [Int.mul_add]
  have f2 : d * (y + t) = d * y + d * t := by rw [Int.mul_add]
  rw [Int.mul_comm] at e1 e2
  refine ⟨⟨F0, ys, yt, by omega, by omega, isB, ?_, hg, by omega, by omega, by omega, .inr (by omega), ?_⟩, hb0, ?_⟩
  · rw [n1, isA, isB]; grind
  · have g1 : (x - d * y + (p - d * s)) = r1 := by omega
    have g2 : (x - d * y + (q - d * t)) = r2 := by omega
    rw [g1, g2]
    have g3 : r1 * F = (x + p) * F - d * ((y + s) * F) := by rw [show r1 = (x + p) - d * (y + s) by omega, Int.sub_mul, Int.mul_assoc]
    have g4 : r2 * F = (x + q) * F - d * ((y + t) * F) := by rw [show r2 = (x + q) - d * (y + t) by omega, Int.sub_mul, Int.mul_assoc]
    rw [g3, g4]
    rcases side with ⟨i1, i2, i3, i4, h5, h6, h7, h8⟩ | ⟨i1, i2, i3, i4, h5, h6, h7, h8⟩
    · have k1 := Int.mul_le_mul_of_nonneg_left h8 d0
      have k2 := Int.mul_le_mul_of_nonneg_left h7 d0
      have z1 : d * s ≤ 0 := Int.mul_nonpos_of_nonneg_of_nonpos d0 i3
      have z2 : 0 ≤ d * t := Int.mul_nonneg d0 i4
      exact .inr ⟨i3, i4, by omega, by omega, h7, h8, by omega, by omega⟩
    · have k1 := Int.mul_le_mul_of_nonneg_left h8 d0
      have k2 := Int.mul_le_mul_of_nonneg_left h7 d0
      have z1 : 0 ≤ d * s := Int.mul_nonneg d0 i3
      have z2 : d * t ≤ 0 := Int.mul_nonpos_of_nonneg_of_nonpos d0 i4
      exact .inl ⟨i3, i4, by omega, by omega, h7, h8, by omega, by omega⟩
  · rcases side with ⟨i1, i2, i3, i4, _⟩ | ⟨i1, i2, i3, i4, _⟩
    · have z1 : d * s ≤ 0 := Int.mul_nonpos_of_nonneg_of_nonpos d0 i3
      omega
    · have z2 : d * t ≤ 0 := Int.mul_nonpos_of_nonneg_of_nonpos d0 i4
      omega

/-- What is reckoned with stays small: with M at most 2^62 nothing leaves the 64 bits. -/
theorem Leh.small {A B : Nat} {F M x y p q s t : Int} {a b : Nat} (h : Leh A B F M x y p q s t a b) :
    (0 ≤ x ∧ x ≤ M) ∧ (0 ≤ y ∧ y ≤ M) ∧ (-M ≤ p ∧ p ≤ M) ∧ (-M ≤ q ∧ q ≤ M) ∧ (-M ≤ s ∧ s ≤ M) ∧ (-M ≤ t ∧ t ≤ M) ∧ ((0 ≤ p ∧ q ≤ 0 ∧ s ≤ 0 ∧ 0 ≤ t) ∨ (p ≤ 0 ∧ 0 ≤ q ∧ 0 ≤ s ∧ t ≤ 0)) := by
  obtain ⟨F0, xp, xq, ys, yt, isA, isB, gcd, le, aA, bB, lt, side⟩ := h
  rcases side with ⟨i1, i2, i3, i4, _⟩ | ⟨i1, i2, i3, i4, _⟩
  · exact ⟨by omega, by omega, by omega, by omega, by omega, by omega, .inl ⟨i1, i2, i3, i4⟩⟩
  · exact ⟨by omega, by omega, by omega, by omega, by omega, by omega, .inr ⟨i1, i2, i3, i4⟩⟩

/-- What some steps of Euclid make of two numbers: what is left of Leh when the leading places are forgotten. -/
structure Steps (A B : Nat) (p q s t : Int) (a b : Nat) : Prop where
  isA : (a : Int) = p * A + q * B
  isB : (b : Int) = s * A + t * B
  gcd : Nat.gcd a b = Nat.gcd A B
  le : b ≤ a
  aA : a ≤ A
  bB : b ≤ B
  lt : q = 0 ∨ b < B
  bp : -4611686018427387904 ≤ p ∧ p ≤ 4611686018427387904
  bq : -4611686018427387904 ≤ q ∧ q ≤ 4611686018427387904
  bs : -4611686018427387904 ≤ s ∧ s ≤ 4611686018427387904
  bt : -4611686018427387904 ≤ t ∧ t ≤ 4611686018427387904
  side : (0 ≤ p ∧ q ≤ 0 ∧ s ≤ 0 ∧ 0 ≤ t) ∨ (p ≤ 0 ∧ 0 ≤ q ∧ 0 ≤ s ∧ t ≤ 0)
theorem Leh.steps {A B : Nat} {F M x y p q s t : Int} {a b : Nat} (h : Leh A B F M x y p q s t a b) (hM : M ≤ 4611686018427387904) : Steps A B p q s t a b := by
  obtain ⟨_, _, h1, h2, h3, h4, h5⟩ := h.small
  refine ⟨h.isA, h.isB, h.gcd, h.le, h.aA, h.bB, ?_, by omega, by omega, by omega, by omega, h5⟩
  rcases h.lt with ⟨_, h6, _⟩ | h6
  · exact .inl h6
  · exact .inr h6
/-- The places that are cut off leave 62. -/
theorem lead_places {m f nb : Nat} (hm : m < 2 ^ nb) (hf : nb ≤ f + 62) : m / 2 ^ f < 4611686018427387904 := by
  rw [Nat.div_lt_iff_lt_mul (Nat.two_pow_pos f)]
  have h1 : 2 ^ nb ≤ 2 ^ (f + 62) := Nat.pow_le_pow_right (by omega) hf
  rw [Nat.pow_add, Nat.mul_comm] at h1
  have h2 : (2 : Nat) ^ 62 = 4611686018427387904 := by decide
  rw [h2] at h1
  omega

end Go.Proofs.Num

namespace Go.Proofs.Ytaegkhdkhgemmaa
open Go.RowKit Num

/-- A structure of four numbers in a block of the call's own. -/
def Four (w : World) (g : Nat) (p q s t : Int) : Prop := w.heap[g]? = some (.cells #[.int .i64 p, .int .i64 q, .int .i64 s, .int .i64 t] 129 (0, 0))
theorem Four.c0 {w : World} {g : Nat} {p q s t : Int} (h : Four w g p q s t) : w.cell? ⟨g, 0, none⟩ = some (.int .i64 p) := by unfold Four at h; simp [World.cell?, h]
theorem Four.c1 {w : World} {g : Nat} {p q s t : Int} (h : Four w g p q s t) : w.cell? ⟨g, 1, none⟩ = some (.int .i64 q) := by unfold Four at h; simp [World.cell?, h]
theorem Four.c2 {w : World} {g : Nat} {p q s t : Int} (h : Four w g p q s t) : w.cell? ⟨g, 2, none⟩ = some (.int .i64 s) := by unfold Four at h; simp [World.cell?, h]
theorem Four.c3 {w : World} {g : Nat} {p q s t : Int} (h : Four w g p q s t) : w.cell? ⟨g, 3, none⟩ = some (.int .i64 t) := by unfold Four at h; simp [World.cell?, h]
theorem Four.frozen {w : World} {g : Nat} {p q s t : Int} (h : Four w g p q s t) (i : Nat) : w.frozen? ⟨g, i, none⟩ = false := by unfold Four at h; simp [World.frozen?, h]
theorem Four.set {w : World} {g : Nat} {p q s t : Int} (h : Four w g p q s t) (p' q' s' t' : Int) :
    Four ((((w.setCell ⟨g, 0, none⟩ (.int .i64 p')).setCell ⟨g, 1, none⟩ (.int .i64 q')).setCell ⟨g, 2, none⟩ (.int .i64 s')).setCell ⟨g, 3, none⟩ (.int .i64 t')) g p' q' s' t' := by
  unfold Four at *
  simp [World.setCell, Array.getElem?_modify, h]
theorem Four.other {w : World} {g g' : Nat} {p q s t : Int} (h : Four w g p q s t) (hg : g ≠ g') (a b c d : Value) :
    Four ((((w.setCell ⟨g', 0, none⟩ a).setCell ⟨g', 1, none⟩ b).setCell ⟨g', 2, none⟩ c).setCell ⟨g', 3, none⟩ d) g p q s t := by
  unfold Four at *
  simp [World.setCell, Array.getElem?_modify, h, hg.symm]

theorem und129 : (Try.prog.underlying 129).map (fun d => match d with | .struct _ | .array _ _ => true | _ => false) = some true := by kernel_rfl
theorem size129 : (Try.prog.info? 129).map (·.size) = some 4 := by kernel_rfl
theorem Four.results {fn : Func} {w : World} {g : Nat} {p q s t : Int} (h : Four w g p q s t) {k : Nat} (hr : fn.results = #[.cell k 129]) (tmps : Array Value) (hp : tmps.getD k undef = .pointer (some ⟨g, 0, none⟩)) :
    (results fn tmps).run Try.prog w = .ok (.agg #[.int .i64 p, .int .i64 q, .int .i64 s, .int .i64 t]) w := by
  obtain ⟨d, hd, hm⟩ := Option.map_eq_some_iff.1 und129
  cases d <;> first | exact results_cell_row hr tmps w g 129 _ (0, 0) _ hp h hd rfl size129 | exact absurd hm (by simp)

/-- What leadingSteps gives. -/
def LeadPost (m n : Nat) (M : Int) (w : World) (e : Ending) (w' : World) : Prop :=
  ∃ (F x y p q s t : Int) (a b : Nat), e = .returned (.agg #[.int .i64 p, .int .i64 q, .int .i64 s, .int .i64 t]) ∧ Num.Leh m n F M x y p q s t a b ∧ Below w.heap.size w w'

set_option maxHeartbeats 4000000 in
set_option maxRecDepth 100000 in
theorem lead_core (A A' : Option Addr) (c c' L L' m n nb f x y : Nat) (F M : Int) (hM : M ≤ 4611686018427387904) (w : World)
   (hl0 : Num.Leh m n F M x y 1 0 0 1 m n)
   (hf : max (wrap64 ((nb : Int) - 62)) 0 = (f : Int)) (x1 : IntKind.i64.wrap (x : Int) = x) (y1 : IntKind.i64.wrap (y : Int) = y) (hb : ∀ w1 : World, Below w.heap.size w w1 → Calls Try.prog 91 #[.slice A L c] w1 fun e w' => e = .returned (.int .i64 (nb : Nat)) ∧ w1 = w')
   (hx : ∀ w1 : World, Below w.heap.size w w1 → Calls Try.prog 77 #[.slice A L c, .int .i64 (f : Int)] w1 fun e w' => e = .returned (.int .u64 (x : Nat)) ∧ w1 = w')
   (hy : ∀ w1 : World, Below w.heap.size w w1 → Calls Try.prog 77 #[.slice A' L' c', .int .i64 (f : Int)] w1 fun e w' => e = .returned (.int .u64 (y : Nat)) ∧ w1 = w') :
    Calls Try.prog 119 #[.slice A L c, .slice A' L' c'] w (LeadPost m n M w) := by
  have HB := Lib.hid hb
  have HX := Lib.hid hx
  have HY := Lib.hid hy
  have HL0 := Lib.hid hl0
  have HM := Lib.hid hM
  clear hb hx hy hl0 hM
  have hbA := below_new w (Obj.cells #[.int .i64 0, .int .i64 0, .int .i64 0, .int .i64 0] 129)
  go_enter Try.func119, Try.ntmps119
  go_wp2_with (fail)
  refine (HB.out _ hbA).mono ?_
  rintro e w1 ⟨rfl, rfl⟩
  go_wp2_with (fail)
  refine (HX.out _ hbA).mono ?_
  rintro e w1 ⟨rfl, rfl⟩
  go_wp2_with (fail)
  refine (HY.out _ hbA).mono ?_
  rintro e w1 ⟨rfl, rfl⟩
  go_wp2
  clear hf x1 y1
  go_loopw [6, 7] (fun xv yv wr => ∃ (X Y p q s t : Int) (a b : Nat), xv = .int .i64 X ∧ yv = .int .i64 Y ∧ Num.Leh m n F M X Y p q s t a b ∧ Four wr (w.heap.size + 1) p q s t ∧ Four wr w.heap.size 0 0 0 0 ∧ Below w.heap.size w wr) (fun _ yv _ => (intOf yv).toNat)
  case atStart =>
    refine ⟨_, _, 1, 0, 0, 1, m, n, rfl, rfl, HL0.out, ?_, ?_, ?_⟩
    · have := heap_alloc_new (w.alloc (Obj.cells #[.int .i64 0, .int .i64 0, .int .i64 0, .int .i64 0] 129)) (Obj.cells #[.int .i64 1, .int .i64 0, .int .i64 0, .int .i64 1] 129)
      simpa [Four] using this
    · unfold Four
      rw [(below_new (w.alloc (Obj.cells #[.int .i64 0, .int .i64 0, .int .i64 0, .int .i64 0] 129)) (Obj.cells #[.int .i64 1, .int .i64 0, .int .i64 0, .int .i64 1] 129)).block _ (by simp)]
      exact heap_alloc_new w _
    · exact ((Below.refl _ w).alloc (Nat.le_refl _) _).alloc (by simp) _
  case round =>
    obtain ⟨X, Y, p, q, s, t, a, b, rfl, rfl, hl, h4, h0, hbl⟩ := hrel
    have c0 := h4.c0
    have c1 := h4.c1
    have c2 := h4.c2
    have c3 := h4.c3
    have fr := h4.frozen
    have z0 := h0.c0
    have z1 := h0.c1
    have z2 := h0.c2
    have z3 := h0.c3
    have zr := h0.frozen
    obtain ⟨hX, hY, hp, hq, hs, ht, _⟩ := hl.small
    have hl' := hl
    obtain ⟨F0, xp, xq, ys, yt, _⟩ := hl'
    have hM := HM.out
    obtain ⟨YS, hYS⟩ : ∃ v, Y + s = v := ⟨_, rfl⟩
    obtain ⟨YT, hYT⟩ : ∃ v, Y + t = v := ⟨_, rfl⟩
    obtain ⟨XP, hXP⟩ : ∃ v, X + p = v := ⟨_, rfl⟩
    obtain ⟨XQ, hXQ⟩ : ∃ v, X + q = v := ⟨_, rfl⟩
    have w1 : IntKind.i64.wrap (Y + s) = YS := by rw [← hYS]; exact IntWalk.i64_in _ (by omega)
    have w2 : IntKind.i64.wrap (Y + t) = YT := by rw [← hYT]; exact IntWalk.i64_in _ (by omega)
    have w3 : IntKind.i64.wrap (X + p) = XP := by rw [← hXP]; exact IntWalk.i64_in _ (by omega)
    have w4 : IntKind.i64.wrap (X + q) = XQ := by rw [← hXQ]; exact IntWalk.i64_in _ (by omega)
    by_cases e1 : YS = 0
    · have k1 : (YS != 0) = false := by simpa using e1
      have HL := Lib.hid hl
      clear hl xp xq ys yt hYS hYT hXP hXQ hX hY hp hq hs ht hM
      go_wp2
      (try simp only [Exit.inBlock, Exit.then])
      refine bodyPost_ret (Four.results (h0.set p q s t) rfl _ rfl) rfl ?_
      exact ⟨F, X, Y, p, q, s, t, a, b, rfl, HL.out, (below_set (below_set (below_set (below_set hbl (Nat.le_refl _) _) (Nat.le_refl _) _) (Nat.le_refl _) _) (Nat.le_refl _) _)⟩
    · have k1 : (YS != 0) = true := by simpa using e1
      have k1' : (YS == 0) = false := by simpa using e1
      by_cases e2 : YT = 0
      · have k2 : (YT != 0) = false := by simpa using e2
        have HL := Lib.hid hl
        clear hl xp xq ys yt hYS hYT hXP hXQ hX hY hp hq hs ht hM
        go_wp2
        (try simp only [Exit.inBlock, Exit.then])
        refine bodyPost_ret (Four.results (h0.set p q s t) rfl _ rfl) rfl ?_
        exact ⟨F, X, Y, p, q, s, t, a, b, rfl, HL.out, (below_set (below_set (below_set (below_set hbl (Nat.le_refl _) _) (Nat.le_refl _) _) (Nat.le_refl _) _) (Nat.le_refl _) _)⟩
      · have k2 : (YT != 0) = true := by simpa using e2
        have k2' : (YT == 0) = false := by simpa using e2
        obtain ⟨d, hd⟩ : ∃ d, XP / YS = d := ⟨_, rfl⟩
        obtain ⟨d2, hd2⟩ : ∃ d, XQ / YT = d := ⟨_, rfl⟩
        have hdb := IntWalk.tdiv_le XP YS (by omega) (by omega)
        have hdb2 := IntWalk.tdiv_le XQ YT (by omega) (by omega)
        rw [hd] at hdb
        rw [hd2] at hdb2
        have t1 : XP.tdiv YS = d := by rw [Int.tdiv_eq_ediv_of_nonneg (by omega)]; exact hd
        have t2 : XQ.tdiv YT = d2 := by rw [Int.tdiv_eq_ediv_of_nonneg (by omega)]; exact hd2
        have u1 : IntKind.i64.wrap d = d := IntWalk.i64_in _ (by omega)
        have u2 : IntKind.i64.wrap d2 = d2 := IntWalk.i64_in _ (by omega)
        by_cases e3 : d = d2
        · subst e3
          have hst := hl.step (d := d) (by omega) (by omega) (by rw [hXP, hYS, hd]) (by rw [hXQ, hYT, hd2])
          obtain ⟨hst, hb0, hdec⟩ := hst
          obtain ⟨hX', hY', hp', hq', hs', ht', hsg'⟩ := hst.small
          obtain ⟨_, _, _, _, _, _, hsg⟩ := hl.small
          have zs : s = 0 → d * s = 0 := fun h => by rw [h, Int.mul_zero]
          have zt : t = 0 → d * t = 0 := fun h => by rw [h, Int.mul_zero]
          have v1 : IntKind.i64.wrap (d * s) = d * s := IntWalk.i64_in _ (by omega)
          have v2 : IntKind.i64.wrap (d * t) = d * t := IntWalk.i64_in _ (by omega)
          have v3 : IntKind.i64.wrap (d * Y) = d * Y := IntWalk.i64_in _ (by omega)
          obtain ⟨s', hs'e⟩ : ∃ v, p - d * s = v := ⟨_, rfl⟩
          obtain ⟨t', ht'e⟩ : ∃ v, q - d * t = v := ⟨_, rfl⟩
          obtain ⟨y', hy'e⟩ : ∃ v, X - d * Y = v := ⟨_, rfl⟩
          have v4 : IntKind.i64.wrap (p - d * s) = s' := by rw [← hs'e]; exact IntWalk.i64_in _ (by omega)
          have v5 : IntKind.i64.wrap (q - d * t) = t' := by rw [← ht'e]; exact IntWalk.i64_in _ (by omega)
          have v6 : IntKind.i64.wrap (X - d * Y) = y' := by rw [← hy'e]; exact IntWalk.i64_in _ (by omega)
          rw [hs'e, ht'e, hy'e] at hst
          rw [hy'e] at hdec
          have hfour := h4.set s t s' t'
          have hfour0 := h0.other (g' := w.heap.size + 1) (by omega) (.int .i64 s) (.int .i64 t) (.int .i64 s') (.int .i64 t')
          have HST := Lib.hid hst
          have HDC := Lib.hid (And.intro (show 0 ≤ y' by omega) hdec)
          clear zs zt hst hl xp xq ys yt hYS hYT hXP hXQ hX hY hp hq hs ht hM hX' hY' hp' hq' hs' ht' hsg' hsg hd hd2 hdb hdb2 hs'e ht'e hy'e hdec
          go_wp2
          go_roundw
          case rel => exact ⟨Y, y', s, t, s', t', b, a % b, rfl, rfl, HST.out, hfour, hfour0, (below_set (below_set (below_set (below_set hbl (Nat.le_succ _) _) (Nat.le_succ _) _) (Nat.le_succ _) _) (Nat.le_succ _) _)⟩
          case measure => have := HDC.out; simp only [intOf]; omega
        · have k3 : (d != d2) = true := by simpa using e3
          have HL := Lib.hid hl
          clear hl xp xq ys yt hYS hYT hXP hXQ hX hY hp hq hs ht e3 hM hd hd2 hdb hdb2
          go_wp2
          (try simp only [Exit.inBlock, Exit.then])
          refine bodyPost_ret (Four.results (h0.set p q s t) rfl _ rfl) rfl ?_
          exact ⟨F, X, Y, p, q, s, t, a, b, rfl, HL.out, (below_set (below_set (below_set (below_set hbl (Nat.le_refl _) _) (Nat.le_refl _) _) (Nat.le_refl _) _) (Nat.le_refl _) _)⟩

theorem i64_nat {k : Nat} (h : k < 4611686018427387904) : IntKind.i64.wrap (k : Int) = (k : Int) := IntWalk.i64_in _ (by omega)
/-- What leadingSteps gives, in numbers. -/
def StepsPost (m n : Nat) (w : World) (e : Ending) (w' : World) : Prop :=
  ∃ (p q s t : Int) (a b : Nat), e = .returned (.agg #[.int .i64 p, .int .i64 q, .int .i64 s, .int .i64 t]) ∧ Num.Steps m n p q s t a b ∧ Below w.heap.size w w'
theorem lead_any (a b : Value) (m n : Nat) (w : World) (ha : W64 w a m) (hb : W64 w b n) (hm : (dig B64 m).length ≤ 1000000) (hle : n ≤ m) :
    Calls Try.prog 119 #[a, b] w (StepsPost m n w) := by
  have hmono := dig_len_le b64_two (n := n) (k := (dig B64 m).length) (Nat.lt_of_le_of_lt hle (dig_len_lt b64_two))
  have hnb : nbits m ≤ 64 * (dig B64 m).length := nbits_le (by
    have h1 := dig_len_lt b64_two (n := m)
    have e : B64 ^ (dig B64 m).length = 2 ^ (64 * (dig B64 m).length) := by rw [Nat.pow_mul]; rfl
    omega)
  have hlt := nbits_lt m
  obtain ⟨f, hfe⟩ : ∃ f, nbits m - 62 = f := ⟨_, rfl⟩
  have hx : m / 2 ^ f < 4611686018427387904 := lead_places hlt (by omega)
  have hy : n / 2 ^ f ≤ m / 2 ^ f := Nat.div_le_div_right hle
  have hst := Num.Leh.start (F := 2 ^ f) (Nat.two_pow_pos f) hle
  obtain ⟨A, c, rfl, _, hA⟩ := ha
  obtain ⟨A', c', rfl, _, hB⟩ := hb
  have key := lead_core A A' c c' _ _ m n (nbits m) f (m / 2 ^ f) (n / 2 ^ f) ((2 ^ f : Nat) : Int) ((m / 2 ^ f : Nat) + 1) (by omega) w hst
    (by simp only [wrap64]; omega) (i64_nat hx) (i64_nat (Nat.lt_of_le_of_lt hy hx))
    (fun w1 hw => bits_any A c _ m w1 (hA.keep hw) rfl (by omega))
    (fun w1 hw => by
      have := window_any A c _ m f w1 (hA.keep hw) rfl (by omega) (by omega)
      rwa [Nat.mod_eq_of_lt (by unfold B64; omega)] at this)
    (fun w1 hw => by
      have := window_any A' c' _ n f w1 (hB.keep hw) rfl (by omega) (by omega)
      rwa [Nat.mod_eq_of_lt (by unfold B64; omega)] at this)
  refine key.mono ?_
  rintro e w' ⟨F, x, y, p, q, s, t, a, b, rfl, hl, hb⟩
  exact ⟨p, q, s, t, a, b, rfl, hl.steps (by omega), hb⟩
end Go.Proofs.Ytaegkhdkhgemmaa

/- Plain laws: the two halves of a number, and Karatsuba's three products. -/
namespace Go.Proofs.Num
theorem dig_drop {b : Nat} (hb : 2 ≤ b) (n k : Nat) : (dig b n).drop k = dig b (n / b ^ k) := by
  induction k generalizing n with
  | zero => simp
  | succ k ih =>
    by_cases hn : n = 0
    · subst hn; simp [dig_zero]
    · rw [dig_pos hb hn, List.drop_succ_cons, ih, Nat.div_div_eq_div_mul, Nat.pow_succ, Nat.mul_comm]
theorem val_take_dig {b : Nat} (hb : 2 ≤ b) (n k : Nat) (hk : k ≤ (dig b n).length) : val b ((dig b n).take k) = n % b ^ k := by
  have h1 := val_take_drop b (dig b n) k hk
  rw [val_dig hb, dig_drop hb, val_dig hb] at h1
  have h2 := val_lt b _ ((low_dig hb n).take k)
  rw [List.length_take, Nat.min_eq_left hk] at h2
  have h3 := Nat.mod_add_div n (b ^ k)
  omega
theorem dig_len_mod {b : Nat} (hb : 2 ≤ b) (n k : Nat) : (dig b (n % b ^ k)).length ≤ k := dig_len_le hb (Nat.mod_lt _ (Nat.pow_pos (by omega)))
theorem dig_len_div {b : Nat} (hb : 2 ≤ b) (n k : Nat) : (dig b (n / b ^ k)).length = (dig b n).length - k := by rw [← dig_drop hb, List.length_drop]
/-- The middle product, without the two others. -/
theorem kara_mid (m0 m1 n0 n1 : Nat) : (m0 + m1) * (n0 + n1) - m0 * n0 - m1 * n1 = m0 * n1 + m1 * n0 ∧ m0 * n0 ≤ (m0 + m1) * (n0 + n1) ∧ m1 * n1 ≤ (m0 + m1) * (n0 + n1) - m0 * n0 := by
  have e : (m0 + m1) * (n0 + n1) = m0 * n0 + m0 * n1 + m1 * n0 + m1 * n1 := by grind
  rw [e]
  omega
theorem kara_sum (m0 m1 n0 n1 x : Nat) : (m0 + x * m1) * (n0 + x * n1) = m0 * n0 + x * x * (m1 * n1) + x * (m0 * n1 + m1 * n0) := by grind
end Go.Proofs.Num
namespace Go.Proofs.Num
theorem val_lay_add {b : Nat} {zs ys : List Nat} {off : Nat} (h : off + ys.length ≤ zs.length) (hz : ∀ (i v : Nat), off ≤ i → i < off + ys.length → zs[i]? = some v → v = 0) :
    val b (zs.take off ++ (ys ++ zs.drop (off + ys.length))) = val b zs + b ^ off * val b ys := by
  have e1 := val_take_drop b zs off (by omega)
  have e2 := val_take_drop b (zs.drop off) ys.length (by rw [List.length_drop]; omega)
  have e3 : val b ((zs.drop off).take ys.length) = 0 := val_zero fun i v hv => by
    have := seg_get? zs off ys.length i
    unfold seg at this
    rw [this] at hv
    split at hv
    · exact hz _ v (by omega) (by omega) hv
    · cases hv
  rw [e3, List.drop_drop] at e2
  rw [val_append, val_append, List.length_take, Nat.min_eq_left (by omega), e1, e2]
  grind
/-- What addTo leaves of a whole number, when nothing is carried out of it. -/
theorem AddSt.whole {b : Nat} {zs xs zs' : List Nat} {off n c N : Nat} (h : AddSt b zs xs off n zs' c) (hn : off + n = zs.length) (hx : xs.length ≤ n) (hN : val b zs + b ^ off * val b xs = N) (hlt : N < b ^ zs.length) : val b zs' = N := by
  have e := h.eq
  rw [List.take_of_length_le hx] at e
  have l := h.len
  have e1 := val_split (b := b) (zs := zs) (i := off) (j := n) (r := 0) (by omega)
  have e2 := val_split (b := b) (zs := zs') (i := off) (j := n) (r := 0) (by omega)
  have e3 : seg zs' 0 off = seg zs 0 off := seg_congr fun i _ h2 => h.far i (by omega)
  have z1 : val b (seg zs (off + n) 0) = 0 := by rw [seg_zero]; rfl
  have z2 : val b (seg zs' (off + n) 0) = 0 := by rw [seg_zero]; rfl
  rw [z1] at e1
  rw [z2, e3] at e2
  have e4 : val b zs' + b ^ zs.length * c = N := by
    rw [← hN, ← hn, Nat.pow_add]
    clear h hlt hN z1 z2 e3 l
    grind
  have h0 : c = 0 := by
    rcases Nat.eq_zero_or_pos c with h | h
    · exact h
    · have : b ^ zs.length * 1 ≤ b ^ zs.length * c := Nat.mul_le_mul_left _ h
      omega
  subst h0
  simpa using e4
end Go.Proofs.Num

namespace Go.Proofs.Ytaegkhdkhgemmaa
open Go.RowKit Num

/-- The first len words of row g make n. -/
structure RawAt (w : World) (g : Nat) (zs : List Nat) (len n : Nat) : Prop where
  row : Row .u64 24 w g zs
  low : Low B64 zs
  le : len ≤ zs.length
  eq : val B64 (seg zs 0 len) = n

theorem subFrom_raw (g len c n m : Nat) (zs : List Nat) (x : Value) (w0 w : World) (hz : RawAt w g zs len m) (hx : W64 w0 x n) (hb : Below w0.heap.size w0 w) (hg : w0.heap.size ≤ g) (hle : n ≤ m) (hbig : len ≤ 1000000000000) :
    Calls Try.prog 109 #[.slice (some ⟨g, 0, none⟩) len c, x] w fun e w' => ∃ zs', e = .returned (.tuple #[]) ∧ RawAt w' g zs' len (m - n) ∧ zs'.length = zs.length ∧ w.grownBy w' (some g) := by
  obtain ⟨A, d, rfl, _, hA⟩ := hx
  have hm : m < B64 ^ len := by
    have := val_lt B64 _ (seg_low hz.low 0 len)
    rw [seg_len (by have := hz.le; omega), hz.eq] at this
    exact this
  have hl : (dig B64 n).length ≤ len := dig_len_le b64_two (by omega)
  refine (subFrom_any g 0 len c d _ zs (dig B64 n) A w hz.row hz.low (by have := hz.le; omega) (hA.keep hb) (dig_low64 n) (nums_ne hA hg) rfl hl hbig).mono ?_
  rintro e w' ⟨zs', cy, rfl, hst, hr, hgr⟩
  have e := hst.eq
  rw [List.take_of_length_le hl, val_dig b64_two, hz.eq] at e
  have h1 := val_lt B64 _ (seg_low hst.low 0 len)
  rw [seg_len (by have := hz.le; have := hst.len; omega)] at h1
  have h0 : cy = 0 := by
    rcases Nat.eq_zero_or_pos cy with h | h
    · exact h
    · have : B64 ^ len * 1 ≤ B64 ^ len * cy := Nat.mul_le_mul_left _ h
      omega
  subst h0
  exact ⟨zs', rfl, ⟨hr, hst.low, by rw [hst.len]; exact hz.le, by simp at e; omega⟩, hst.len, hgr⟩

/-- The low half, trimmed. -/
theorem low_half (A : Option Addr) (c n h : Nat) (w : World) (hA : Nums .u64 w A (dig B64 n)) (hh : h ≤ (dig B64 n).length) (hc : (dig B64 n).length ≤ c) (hbig : h ≤ 1000000000000) :
    Calls Try.prog 78 #[.slice A h c] w fun e w' => e = .returned (.slice A (dig B64 (n % B64 ^ h)).length c) ∧ w = w' := by
  have := trim_any A c h ((dig B64 n).take h) w (hA.take h) ((dig_low64 n).take h) (by rw [List.length_take]; omega) (by omega) hbig
  rw [val_take_dig b64_two n h hh] at this
  exact this
theorem low_is (A : Option Addr) (c n h : Nat) (w : World) (hA : Nums .u64 w A (dig B64 n)) (hh : h ≤ (dig B64 n).length) (hc : (dig B64 n).length ≤ c) : W64 w (.slice A (dig B64 (n % B64 ^ h)).length c) (n % B64 ^ h) := by
  have h1 := trim_take b64_two ((dig_low64 n).take h)
  have h2 := dig_len_mod b64_two n h
  rw [val_take_dig b64_two n h hh] at h1
  refine ⟨A, c, rfl, by omega, ?_⟩
  have := (hA.take h).take (dig B64 (n % B64 ^ h)).length
  rw [h1] at this
  exact this
/-- The high half. -/
theorem high_is (g off c n h : Nat) (w : World) (hA : Nums .u64 w (some ⟨g, off, none⟩) (dig B64 n)) (hc : (dig B64 n).length ≤ c) : W64 w (.slice (some ⟨g, off + h, none⟩) ((dig B64 n).length - h) (c - h)) (n / B64 ^ h) := by
  refine ⟨_, _, by rw [dig_len_div b64_two], by rw [dig_len_div b64_two]; omega, fun hp => ?_⟩
  rw [dig_len_div b64_two] at hp
  obtain ⟨g', off', e, hg, hcell⟩ := hA (by omega)
  injection e with e
  injection e with e1 e2 e3
  subst e1 e2
  refine ⟨g, off + h, rfl, hg, fun i v hv => ?_⟩
  rw [← dig_drop b64_two, List.getElem?_drop] at hv
  have := hcell (h + i) v hv
  rw [← Nat.add_assoc] at this
  exact this
end Go.Proofs.Ytaegkhdkhgemmaa

namespace Go.Proofs.Ytaegkhdkhgemmaa
open Go.RowKit Num

theorem lt_of_wlen {n k : Nat} (h : (dig B64 n).length ≤ k) : n < B64 ^ k := Nat.lt_of_lt_of_le (dig_len_lt b64_two) (Nat.pow_le_pow_right b64_pos h)
theorem wlen_add {m n K : Nat} (hm : (dig B64 m).length ≤ K) (hn : (dig B64 n).length ≤ K) : (dig B64 (m + n)).length ≤ K + 1 := dig_len_le b64_two (two_pow_lt b64_two (lt_of_wlen hm) (lt_of_wlen hn))

theorem val_two {b L k : Nat} {xs ys : List Nat} (hx : xs.length ≤ k) (hy : k + ys.length ≤ L) : val b (lay (lay (List.replicate L 0) 0 xs) k ys) = val b xs + b ^ k * val b ys := by
  have hl : (lay (List.replicate L 0) 0 xs).length = L := by rw [lay_len (by simp only [List.length_replicate]; omega)]; simp
  have := val_lay_add (b := b) (zs := lay (List.replicate L 0) 0 xs) (ys := ys) (off := k) (by rw [hl]; exact hy) fun i v h1 _ hv => by
    unfold lay at hv
    rw [List.take_zero, List.nil_append, List.getElem?_append_right (by omega), List.getElem?_drop, List.getElem?_replicate] at hv
    split at hv
    · injection hv with hv; exact hv.symm
    · cases hv
  rw [val_lay0] at this
  exact this
theorem mid_lt {m n x y p q a b B N h : Nat} (e : m * n = x + y + B ^ h * (p * q + a * b)) (hlt : m * n < B ^ (h + N)) : p * q + a * b < B ^ N := by
  rw [Nat.pow_add] at hlt
  exact Nat.lt_of_mul_lt_mul_left (a := B ^ h) (by omega)

set_option maxHeartbeats 4000000 in
set_option maxRecDepth 100000 in
theorem kara_any {K : Nat} (HM : MulSpec K) (ga oa c gb ob c' La Lb m n : Nat) (w : World) (hA : Nums .u64 w (some ⟨ga, oa, none⟩) (dig B64 m)) (hB : Nums .u64 w (some ⟨gb, ob, none⟩) (dig B64 n))
    (hLa : La = (dig B64 m).length) (hLb : Lb = (dig B64 n).length) (h80 : 80 ≤ Lb) (hle : Lb ≤ La) (h2 : La < 2 * Lb) (hc : La ≤ c) (hc' : Lb ≤ c') (hbig : La ≤ 1000000000) (hK : (La + 1) / 2 + 1 ≤ K) (hcb : ¬ c' = (La + 1) / 2) :
    Calls Try.prog 130 #[.slice (some ⟨ga, oa, none⟩) La c, .slice (some ⟨gb, ob, none⟩) Lb c'] w (SumPost w (m * n)) := by
  obtain ⟨h, hh⟩ : ∃ h, (La + 1) / 2 = h := ⟨_, rfl⟩
  have hhi : ((La : Int) + 1) / 2 = (h : Int) := by omega
  have hca : ¬ c = h := by omega
  rw [hh] at hcb hK
  have b1 : h ≤ Lb := by omega
  have b2 : h < La := by omega
  have b3 : 40 ≤ h := by omega
  have b4 : La - h ≤ h := by omega
  have b5 : Lb - h ≤ h := by omega
  have ha0 := fun w (hA : Nums .u64 w (some ⟨ga, oa, none⟩) (dig B64 m)) => low_half _ c m h w hA (by omega) (by omega) (by omega)
  have hb0 := fun w (hB : Nums .u64 w (some ⟨gb, ob, none⟩) (dig B64 n)) => low_half _ c' n h w hB (by omega) (by omega) (by omega)
  have ia0 := fun w (hA : Nums .u64 w (some ⟨ga, oa, none⟩) (dig B64 m)) => low_is _ c m h w hA (by omega) (by omega)
  have ib0 := fun w (hB : Nums .u64 w (some ⟨gb, ob, none⟩) (dig B64 n)) => low_is _ c' n h w hB (by omega) (by omega)
  have ia1 := fun w (hA : Nums .u64 w (some ⟨ga, oa, none⟩) (dig B64 m)) => high_is ga oa c m h w hA (by omega)
  have ib1 := fun w (hB : Nums .u64 w (some ⟨gb, ob, none⟩) (dig B64 n)) => high_is gb ob c' n h w hB (by omega)
  rw [← hLa] at ia1
  rw [← hLb] at ib1
  have lm0 := dig_len_mod b64_two m h
  have ln0 := dig_len_mod b64_two n h
  have lm1 := dig_len_div b64_two m h
  have ln1 := dig_len_div b64_two n h
  rw [← hLa] at lm1
  rw [← hLb] at ln1
  have em := Nat.mod_add_div m (B64 ^ h)
  have en := Nat.mod_add_div n (B64 ^ h)
  have hlt := Nat.mul_lt_mul_of_lt_of_lt (dig_len_lt b64_two (n := m)) (dig_len_lt b64_two (n := n))
  rw [← hLa, ← hLb, ← Nat.pow_add] at hlt
  generalize m % B64 ^ h = m0 at *
  generalize n % B64 ^ h = n0 at *
  generalize m / B64 ^ h = m1 at *
  generalize n / B64 ^ h = n1 at *
  have ls1 : (dig B64 (m0 + m1)).length ≤ h + 1 := wlen_add lm0 (by omega)
  have ls2 : (dig B64 (n0 + n1)).length ≤ h + 1 := wlen_add ln0 (by omega)
  have M1 : ∀ a b w, W64 w a m0 → W64 w b n0 → Calls Try.prog 111 #[a, b] w (SumPost w (m0 * n0)) := fun a b w h k => HM a b m0 n0 w h k (by omega) (by omega)
  have M2 : ∀ a b w, W64 w a m1 → W64 w b n1 → Calls Try.prog 111 #[a, b] w (SumPost w (m1 * n1)) := fun a b w h k => HM a b m1 n1 w h k (by omega) (by omega)
  have M3 : ∀ a b w, W64 w a (m0 + m1) → W64 w b (n0 + n1) → Calls Try.prog 111 #[a, b] w (SumPost w ((m0 + m1) * (n0 + n1))) := fun a b w h k => HM a b _ _ w h k (by omega) (by omega)
  have S1 : ∀ a b w, W64 w a m0 → W64 w b m1 → Calls Try.prog 82 #[a, b] w (SumPost w (m0 + m1)) := fun a b w h k => sum_any a b m0 m1 w h k (by omega) (by omega)
  have S2 : ∀ a b w, W64 w a n0 → W64 w b n1 → Calls Try.prog 82 #[a, b] w (SumPost w (n0 + n1)) := fun a b w h k => sum_any a b n0 n1 w h k (by omega) (by omega)
  have hmk := make64 (La + Lb) (by omega)
  push_cast at hmk
  have hbits : m0 * n0 < B64 ^ (2 * h) ∧ m1 * n1 < B64 ^ (La + Lb - 2 * h) ∧ (m0 + m1) * (n0 + n1) < B64 ^ (2 * h + 2) := by
    refine ⟨?_, ?_, ?_⟩
    · rw [show 2 * h = h + h by omega, Nat.pow_add]
      exact Nat.mul_lt_mul_of_lt_of_lt (lt_of_wlen lm0) (lt_of_wlen ln0)
    · rw [show La + Lb - 2 * h = (La - h) + (Lb - h) by omega, Nat.pow_add]
      exact Nat.mul_lt_mul_of_lt_of_lt (lt_of_wlen (by omega)) (lt_of_wlen (by omega))
    · rw [show 2 * h + 2 = (h + 1) + (h + 1) by omega, Nat.pow_add]
      exact Nat.mul_lt_mul_of_lt_of_lt (lt_of_wlen ls1) (lt_of_wlen ls2)
  have HA := Lib.hid hA
  have HB := Lib.hid hB
  have H0 := Lib.hid ha0
  have H1 := Lib.hid hb0
  have IA0 := Lib.hid ia0
  have IB0 := Lib.hid ib0
  have IA1 := Lib.hid ia1
  have IB1 := Lib.hid ib1
  have HLA := Lib.hid hLa
  have HLB := Lib.hid hLb
  have HH := Lib.hid hh
  have HM1 := Lib.hid M1
  have HM2 := Lib.hid M2
  have HM3 := Lib.hid M3
  have HS1 := Lib.hid S1
  have HS2 := Lib.hid S2
  have HEM := Lib.hid em
  have HEN := Lib.hid en
  have HLT := Lib.hid hlt
  have HBI := Lib.hid hbits
  have below0 : ∀ k, Below w.heap.size w (w.drewN k) := fun k => below_drewN (Below.refl _ _) k
  have HBE := Lib.hid below0
  clear ha0 hb0 ia0 ib0 ia1 ib1 hLa hLb hh M1 M2 M3 S1 S2 em en hlt hbits HM below0 hA hB lm1 ln1
  go_enter Try.func130, Try.ntmps130
  go_wp2
  go_quiet ((go_at_call 78; exact quiet_l (H0.out _ (HA.out.keep (HBE.out _)))))
  go_wp2
  go_quiet ((go_at_call 78; exact quiet_a (H1.out _ (HB.out.keep (HBE.out _)))))
  go_wp2_with (fail)
  refine (HM1.out _ _ _ (IA0.out _ (HA.out.keep (HBE.out _))) (IB0.out _ (HB.out.keep (HBE.out _)))).mono ?_
  rintro e w1 ⟨v1, rfl, hv1, hb1⟩
  have c1 : Below w.heap.size w w1 := (HBE.out _).trans (hb1.mono (HBE.out _).size)
  obtain ⟨A1, d1, rfl, hd1, k1⟩ := hv1.is
  clear hv1
  have ll1 : (dig B64 (m0 * n0)).length ≤ 2 * h := dig_len_le b64_two HBI.out.1
  obtain ⟨l1, hl1⟩ : ∃ l, (dig B64 (m0 * n0)).length = l := ⟨_, rfl⟩
  have HL1 := Lib.hid hl1
  rw [hl1] at hd1 ll1 ⊢
  clear hl1
  go_wp2_with (fail)
  refine (HM2.out _ _ _ (IA1.out _ (HA.out.keep c1)) (IB1.out _ (HB.out.keep c1))).mono ?_
  rintro e w2 ⟨v2, rfl, hv2, hb2⟩
  have c2 := below_at c1 (Nat.le_refl _) hb2
  have k1' := k1.keep hb2
  obtain ⟨A2, d2', rfl, hd2, k2⟩ := hv2.is
  clear hv2 k1
  have ll2 : (dig B64 (m1 * n1)).length ≤ La + Lb - 2 * h := dig_len_le b64_two HBI.out.2.1
  obtain ⟨l2, hl2⟩ : ∃ l, (dig B64 (m1 * n1)).length = l := ⟨_, rfl⟩
  have HL2 := Lib.hid hl2
  rw [hl2] at hd2 ll2 ⊢
  clear hl2
  go_wp2_with (fail)
  refine (HS1.out _ _ _ (IA0.out _ (HA.out.keep c2)) (IA1.out _ (HA.out.keep c2))).mono ?_
  rintro e w3 ⟨v3, rfl, hv3, hb3⟩
  have c3 := below_at c2 (Nat.le_refl _) hb3
  go_wp2_with (fail)
  refine (HS2.out _ _ _ (IB0.out _ (HB.out.keep c3)) (IB1.out _ (HB.out.keep c3))).mono ?_
  rintro e w4 ⟨v4, rfl, hv4, hb4⟩
  have c4 := below_at c3 (Nat.le_refl _) hb4
  go_wp2_with (fail)
  refine (HM3.out _ _ _ (hv3.is.keep hb4) hv4.is).mono ?_
  rintro e w5 ⟨v5, rfl, ⟨g5, c5, zs5, rfl, hc5, hcz5, hg5, hr5, hl5, ht5⟩, hb5⟩
  have c5' := below_at c4 (Nat.le_refl _) hb5
  clear hv3 hv4
  have hK2 := kara_mid m0 m1 n0 n1
  have hmid5 : RawAt w5 g5 zs5 (dig B64 ((m0 + m1) * (n0 + n1))).length ((m0 + m1) * (n0 + n1)) := ⟨hr5, hl5, by omega, by
    have : seg zs5 0 (dig B64 ((m0 + m1) * (n0 + n1))).length = zs5.take (dig B64 ((m0 + m1) * (n0 + n1))).length := by simp [seg]
    rw [this, ht5, val_dig b64_two]⟩
  have lmid : (dig B64 ((m0 + m1) * (n0 + n1))).length ≤ 2 * h + 2 := dig_len_le b64_two HBI.out.2.2
  have w2g : w2.heap.size ≤ g5 := Nat.le_trans hb3.size (Nat.le_trans hb4.size hg5)
  have d2 : Below w2.heap.size w2 w5 := (hb3.trans (hb4.mono hb3.size)).trans (hb5.mono (Nat.le_trans hb3.size hb4.size))
  have HK2 := Lib.hid hK2
  have HT5 := Lib.hid ht5
  clear hK2 ht5 hr5
  generalize (dig B64 ((m0 + m1) * (n0 + n1))).length = lm at *
  subst hcz5
  go_wp2_with (fail)
  refine (subFrom_raw g5 lm _ (m0 * n0) _ zs5 _ w2 _ hmid5 ⟨_, _, by rw [HL1.out], by rw [HL1.out]; exact hd1, k1'⟩ d2 w2g HK2.out.2.1 (by omega)).mono ?_
  rintro e w6 ⟨zs6, rfl, hmid6, hlen6, hgr6⟩
  have d3 : Below w2.heap.size w2 w6 := d2.grown hgr6 d2.size (fun k hk => by injection hk with hk; omega)
  go_wp2_with (fail)
  refine (subFrom_raw g5 lm _ (m1 * n1) _ zs6 _ w2 _ hmid6 ⟨_, _, by rw [HL2.out], by rw [HL2.out]; exact hd2, k2⟩ d3 w2g HK2.out.2.2 (by omega)).mono ?_
  rintro e w7 ⟨zs7, rfl, hmid7, hlen7, hgr7⟩
  have d4 : Below w2.heap.size w2 w7 := d3.grown hgr7 d3.size (fun k hk => by injection hk with hk; omega)
  rw [HK2.out.1] at hmid7
  have k1z := k1'.keep d4
  have k2z := k2.keep d4
  have hr0 := Row.made w7 .u64 (La + Lb) 24
  have hbA : Below w7.heap.size w7 (w7.alloc (.cells (madeCells #[.int .u64 0] (La + Lb)) 24)) := (Below.refl _ _).alloc (Nat.le_refl _) _
  have q1 := k1z.keep hbA
  have q2 := k2z.keep hbA
  have HR0 := Lib.hid hr0
  have hn1 : (lay (List.replicate (La + Lb) 0) 0 (dig B64 (m0 * n0))).length = La + Lb := by rw [lay_len (by simp only [List.length_replicate, HL1.out]; omega)]; simp
  have HN1 := Lib.hid hn1
  clear hr0 hn1
  go_wp2_with (first
    | (refine wpList_copy_row rfl (.tmp 57) (.tmp 58) rfl _ _ _ _ _ _ rfl rfl _ 0 _ _ HR0.out q1 HL1.out.symm (by omega) (fun _ => rfl) (by simp only [List.length_replicate]; omega) ?_
       intro w8 hr8 hg8
       have hb8 : Below w7.heap.size w7 w8 := hbA.grown hg8 hbA.size (by simp)
       have q3 := q2.grown (nums_ne k2z (Nat.le_refl _)) hg8)
    | (refine wpList_copy_row rfl (.tmp 63) (.tmp 64) rfl _ _ _ _ _ _ rfl rfl _ (2 * h) _ _ (by assumption) (by assumption) HL2.out.symm (by omega) (fun _ => rfl) (by rw [HN1.out]; omega) ?_
       intro w9 hr9 hg9
       have hb9 : Below w7.heap.size w7 w9 := hb8.grown hg9 hb8.size (by simp)))
  have ev : (h : Int) ≤ (La : Int) + (Lb : Int) := by omega
  have nv : ¬ La + Lb = h := by omega
  have q5 : Row .u64 24 w9.drew g5 zs7 := (hmid7.row.below hb9 hmid7.row.lt).drew
  have q6 := q5.nums0 lm
  have t1 := trim_any (some ⟨g5, 0, none⟩) zs5.length lm (zs7.take lm) w9.drew q6 (hmid7.low.take lm) (by rw [List.length_take, Nat.min_eq_left hmid7.le]) (by have := hmid7.le; omega) (by omega)
  have t2 : val B64 (zs7.take lm) = m0 * n1 + m1 * n0 := by have := hmid7.eq; simpa [seg] using this
  rw [t2] at t1
  have hmn : m * n = m0 * n0 + B64 ^ h * B64 ^ h * (m1 * n1) + B64 ^ h * (m0 * n1 + m1 * n0) := by
    have := kara_sum m0 m1 n0 n1 (B64 ^ h)
    rwa [HEM.out, HEN.out] at this
  have hml : m0 * n1 + m1 * n0 < B64 ^ (La + Lb - h) := mid_lt hmn (by rw [show h + (La + Lb - h) = La + Lb by omega]; exact HLT.out)
  have hl3 : (dig B64 (m0 * n1 + m1 * n0)).length ≤ La + Lb - h := dig_len_le b64_two hml
  have q7 := q6.take (dig B64 (m0 * n1 + m1 * n0)).length
  have q8 := trim_take b64_two (hmid7.low.take lm)
  rw [t2] at q8
  rw [q8] at q7
  obtain ⟨Z, hZ⟩ : ∃ Z, lay (lay (List.replicate (La + Lb) 0) 0 (dig B64 (m0 * n0))) (2 * h) (dig B64 (m1 * n1)) = Z := ⟨_, rfl⟩
  have zl : Z.length = La + Lb := by rw [← hZ, lay_len (by rw [HN1.out, HL2.out]; omega), HN1.out]
  have zlow : Low B64 Z := by rw [← hZ]; exact lay_low (lay_low (Low.replicate b64_pos _) (dig_low64 _)) (dig_low64 _)
  have zv : val B64 Z = m0 * n0 + B64 ^ h * B64 ^ h * (m1 * n1) := by
    rw [← hZ, val_two (by rw [HL1.out]; omega) (by rw [HL2.out]; omega), val_dig b64_two, val_dig b64_two, show 2 * h = h + h by omega, Nat.pow_add]
  have zv2 : val B64 Z + B64 ^ h * val B64 (dig B64 (m0 * n1 + m1 * n0)) = m * n := by rw [zv, hmn, val_dig b64_two]
  have zlt : m * n < B64 ^ Z.length := by rw [zl]; exact HLT.out
  rw [hZ] at hr9
  have hr10 := hr9.drew
  have g2 : w.heap.size ≤ g5 := Nat.le_trans c2.size w2g
  have c6 : Below w.heap.size w w7 := (c5'.grown hgr6 c5'.size (fun k hk => by injection hk with hk; omega)) |>.grown hgr7 (by have := c5'.size; have := hgr6.size; omega) (fun k hk => by injection hk with hk; omega)
  have c9 : Below w.heap.size w w9 := below_at c6 (Nat.le_refl _) hb9
  have c10 : Below w.heap.size w w9.drew := c9.drew
  have g7 : w.heap.size ≤ w7.heap.size := c6.size
  have g57 : g5 < w7.heap.size := hmid7.row.lt
  have TT := Lib.hid t1
  have T2 := Lib.hid t2
  have ZL := Lib.hid zl
  have ZV := Lib.hid zv2
  clear t1 t2 hmn q8 hZ zl zv zv2 hr9
  go_still_tail 5, (by kernel_rfl)
  still_call (TT.out.mono fun _ _ ⟨he, hm⟩ => ⟨he, hm.symm⟩)
  refine wpStill_nil ?_
  change wpList _ _ _ _ _ w9.drew
  generalize w9.drew = w10 at *
  go_wp2_with (first
    | (go_at_call 106
       refine (addTo_any w7.heap.size h (La + Lb - h) (La + Lb - h) _ _ Z _ _ _ hr10 zlow (by rw [ZL.out]; omega) q7 (dig_low64 _) (fun _ a ha => by injection ha with ha; subst ha; exact Nat.ne_of_lt g57) rfl hl3 (by omega)).mono ?_
       rintro e w11 ⟨zs', cy, rfl, hst, hr11, hg11⟩
       have hb11 : Below w.heap.size w w11 := c10.grown hg11 c10.size (fun k hk => by injection hk with hk; omega)
       have hl11 := hst.len.trans ZL.out
       have hn11 : Nums .u64 w11 (some ⟨w7.heap.size, 0, none⟩) zs' := by have := hr11.nums0 zs'.length; rwa [List.take_length] at this
       have HL11 := Lib.hid hl11
       clear hl11)
    | (go_at_call 78
       refine (trim_any _ (La + Lb) (La + Lb) zs' _ (by assumption) hst.low HL11.out.symm (Nat.le_refl _) (by omega)).mono ?_
       rintro e w12 ⟨rfl, rfl⟩))
  go_ret
  have hv := hst.whole (by rw [ZL.out]; omega) hl3 ZV.out zlt
  rw [← hv]
  refine ⟨_, rfl, ?_, hb11⟩
  have := own_of_trim b64_two hr11 hst.low g7
  rw [HL11.out] at this
  exact this
end Go.Proofs.Ytaegkhdkhgemmaa

namespace Go.Proofs.Ytaegkhdkhgemmaa
open Go.RowKit Num
theorem high_none (A : Option Addr) (n h : Nat) (w : World) (hl : (dig B64 n).length ≤ h) : W64 w (.slice A 0 0) (n / B64 ^ h) := by
  have e : n / B64 ^ h = 0 := Nat.div_eq_of_lt (lt_of_wlen hl)
  rw [e]
  refine ⟨A, 0, ?_, ?_, ?_⟩
  all_goals rw [dig_zero]
  all_goals first | rfl | exact Nats.nil | exact Nums.nil | exact Nat.le_refl _
set_option maxHeartbeats 4000000 in
set_option maxRecDepth 100000 in
theorem kara_eq {K : Nat} (HM : MulSpec K) (ga oa c gb ob c' La Lb m n : Nat) (w : World) (hA : Nums .u64 w (some ⟨ga, oa, none⟩) (dig B64 m)) (hB : Nums .u64 w (some ⟨gb, ob, none⟩) (dig B64 n))
    (hLa : La = (dig B64 m).length) (hLb : Lb = (dig B64 n).length) (h80 : 80 ≤ Lb) (_hle : Lb ≤ La) (h2 : La < 2 * Lb) (hc : La ≤ c) (hc' : Lb ≤ c') (hbig : La ≤ 1000000000) (hK : (La + 1) / 2 + 1 ≤ K) (hcb : c' = (La + 1) / 2) :
    Calls Try.prog 130 #[.slice (some ⟨ga, oa, none⟩) La c, .slice (some ⟨gb, ob, none⟩) Lb c'] w (SumPost w (m * n)) := by
  obtain ⟨h, hh⟩ : ∃ h, (La + 1) / 2 = h := ⟨_, rfl⟩
  have hhi : ((La : Int) + 1) / 2 = (h : Int) := by omega
  have hca : ¬ c = h := by omega
  rw [hh] at hcb hK
  subst c'
  have b1 : h ≤ Lb := by omega
  have b2 : h < La := by omega
  have b3 : 40 ≤ h := by omega
  have b4 : La - h ≤ h := by omega
  have b5 : Lb - h ≤ h := by omega
  have ha0 := fun w (hA : Nums .u64 w (some ⟨ga, oa, none⟩) (dig B64 m)) => low_half _ c m h w hA (by omega) (by omega) (by omega)
  have hb0 := fun w (hB : Nums .u64 w (some ⟨gb, ob, none⟩) (dig B64 n)) => low_half _ h n h w hB (by omega) (by omega) (by omega)
  have ia0 := fun w (hA : Nums .u64 w (some ⟨ga, oa, none⟩) (dig B64 m)) => low_is _ c m h w hA (by omega) (by omega)
  have ib0 := fun w (hB : Nums .u64 w (some ⟨gb, ob, none⟩) (dig B64 n)) => low_is _ h n h w hB (by omega) (by omega)
  have ia1 := fun w (hA : Nums .u64 w (some ⟨ga, oa, none⟩) (dig B64 m)) => high_is ga oa c m h w hA (by omega)
  have ib1 := fun (w : World) (_ : Nums .u64 w (some ⟨gb, ob, none⟩) (dig B64 n)) => high_none (some ⟨gb, ob, none⟩) n h w (by omega)
  rw [← hLa] at ia1
  have lm0 := dig_len_mod b64_two m h
  have ln0 := dig_len_mod b64_two n h
  have lm1 := dig_len_div b64_two m h
  have ln1 := dig_len_div b64_two n h
  rw [← hLa] at lm1
  rw [← hLb] at ln1
  have em := Nat.mod_add_div m (B64 ^ h)
  have en := Nat.mod_add_div n (B64 ^ h)
  have hlt := Nat.mul_lt_mul_of_lt_of_lt (dig_len_lt b64_two (n := m)) (dig_len_lt b64_two (n := n))
  rw [← hLa, ← hLb, ← Nat.pow_add] at hlt
  generalize m % B64 ^ h = m0 at *
  generalize n % B64 ^ h = n0 at *
  generalize m / B64 ^ h = m1 at *
  generalize n / B64 ^ h = n1 at *
  have ls1 : (dig B64 (m0 + m1)).length ≤ h + 1 := wlen_add lm0 (by omega)
  have ls2 : (dig B64 (n0 + n1)).length ≤ h + 1 := wlen_add ln0 (by omega)
  have M1 : ∀ a b w, W64 w a m0 → W64 w b n0 → Calls Try.prog 111 #[a, b] w (SumPost w (m0 * n0)) := fun a b w h k => HM a b m0 n0 w h k (by omega) (by omega)
  have M2 : ∀ a b w, W64 w a m1 → W64 w b n1 → Calls Try.prog 111 #[a, b] w (SumPost w (m1 * n1)) := fun a b w h k => HM a b m1 n1 w h k (by omega) (by omega)
  have M3 : ∀ a b w, W64 w a (m0 + m1) → W64 w b (n0 + n1) → Calls Try.prog 111 #[a, b] w (SumPost w ((m0 + m1) * (n0 + n1))) := fun a b w h k => HM a b _ _ w h k (by omega) (by omega)
  have S1 : ∀ a b w, W64 w a m0 → W64 w b m1 → Calls Try.prog 82 #[a, b] w (SumPost w (m0 + m1)) := fun a b w h k => sum_any a b m0 m1 w h k (by omega) (by omega)
  have S2 : ∀ a b w, W64 w a n0 → W64 w b n1 → Calls Try.prog 82 #[a, b] w (SumPost w (n0 + n1)) := fun a b w h k => sum_any a b n0 n1 w h k (by omega) (by omega)
  have hmk := make64 (La + Lb) (by omega)
  push_cast at hmk
  have hbits : m0 * n0 < B64 ^ (2 * h) ∧ m1 * n1 < B64 ^ (La + Lb - 2 * h) ∧ (m0 + m1) * (n0 + n1) < B64 ^ (2 * h + 2) := by
    refine ⟨?_, ?_, ?_⟩
    · rw [show 2 * h = h + h by omega, Nat.pow_add]
      exact Nat.mul_lt_mul_of_lt_of_lt (lt_of_wlen lm0) (lt_of_wlen ln0)
    · rw [show La + Lb - 2 * h = (La - h) + (Lb - h) by omega, Nat.pow_add]
      exact Nat.mul_lt_mul_of_lt_of_lt (lt_of_wlen (by omega)) (lt_of_wlen (by omega))
    · rw [show 2 * h + 2 = (h + 1) + (h + 1) by omega, Nat.pow_add]
      exact Nat.mul_lt_mul_of_lt_of_lt (lt_of_wlen ls1) (lt_of_wlen ls2)
  have HA := Lib.hid hA
  have HB := Lib.hid hB
  have H0 := Lib.hid ha0
  have H1 := Lib.hid hb0
  have IA0 := Lib.hid ia0
  have IB0 := Lib.hid ib0
  have IA1 := Lib.hid ia1
  have IB1 := Lib.hid ib1
  have HLA := Lib.hid hLa
  have HLB := Lib.hid hLb
  have HH := Lib.hid hh
  have HM1 := Lib.hid M1
  have HM2 := Lib.hid M2
  have HM3 := Lib.hid M3
  have HS1 := Lib.hid S1
  have HS2 := Lib.hid S2
  have HEM := Lib.hid em
  have HEN := Lib.hid en
  have HLT := Lib.hid hlt
  have HBI := Lib.hid hbits
  have below0 : ∀ k, Below w.heap.size w (w.drewN k) := fun k => below_drewN (Below.refl _ _) k
  have HBE := Lib.hid below0
  clear ha0 hb0 ia0 ib0 ia1 ib1 hLa hLb hh M1 M2 M3 S1 S2 em en hlt hbits HM below0 hA hB lm1 ln1
  go_enter Try.func130, Try.ntmps130
  go_wp2
  go_quiet ((go_at_call 78; exact quiet_l (H0.out _ (HA.out.keep (HBE.out _)))))
  go_wp2
  go_quiet ((go_at_call 78; exact quiet_a (H1.out _ (HB.out.keep (HBE.out _)))))
  go_wp2_with (fail)
  refine (HM1.out _ _ _ (IA0.out _ (HA.out.keep (HBE.out _))) (IB0.out _ (HB.out.keep (HBE.out _)))).mono ?_
  rintro e w1 ⟨v1, rfl, hv1, hb1⟩
  have c1 : Below w.heap.size w w1 := (HBE.out _).trans (hb1.mono (HBE.out _).size)
  obtain ⟨A1, d1, rfl, hd1, k1⟩ := hv1.is
  clear hv1
  have ll1 : (dig B64 (m0 * n0)).length ≤ 2 * h := dig_len_le b64_two HBI.out.1
  obtain ⟨l1, hl1⟩ : ∃ l, (dig B64 (m0 * n0)).length = l := ⟨_, rfl⟩
  have HL1 := Lib.hid hl1
  rw [hl1] at hd1 ll1 ⊢
  clear hl1
  go_wp2_with (fail)
  refine (HM2.out _ _ _ (IA1.out _ (HA.out.keep c1)) (IB1.out _ (HB.out.keep c1))).mono ?_
  rintro e w2 ⟨v2, rfl, hv2, hb2⟩
  have c2 := below_at c1 (Nat.le_refl _) hb2
  have k1' := k1.keep hb2
  obtain ⟨A2, d2', rfl, hd2, k2⟩ := hv2.is
  clear hv2 k1
  have ll2 : (dig B64 (m1 * n1)).length ≤ La + Lb - 2 * h := dig_len_le b64_two HBI.out.2.1
  obtain ⟨l2, hl2⟩ : ∃ l, (dig B64 (m1 * n1)).length = l := ⟨_, rfl⟩
  have HL2 := Lib.hid hl2
  rw [hl2] at hd2 ll2 ⊢
  clear hl2
  go_wp2_with (fail)
  refine (HS1.out _ _ _ (IA0.out _ (HA.out.keep c2)) (IA1.out _ (HA.out.keep c2))).mono ?_
  rintro e w3 ⟨v3, rfl, hv3, hb3⟩
  have c3 := below_at c2 (Nat.le_refl _) hb3
  go_wp2_with (fail)
  refine (HS2.out _ _ _ (IB0.out _ (HB.out.keep c3)) (IB1.out _ (HB.out.keep c3))).mono ?_
  rintro e w4 ⟨v4, rfl, hv4, hb4⟩
  have c4 := below_at c3 (Nat.le_refl _) hb4
  go_wp2_with (fail)
  refine (HM3.out _ _ _ (hv3.is.keep hb4) hv4.is).mono ?_
  rintro e w5 ⟨v5, rfl, ⟨g5, c5, zs5, rfl, hc5, hcz5, hg5, hr5, hl5, ht5⟩, hb5⟩
  have c5' := below_at c4 (Nat.le_refl _) hb5
  clear hv3 hv4
  have hK2 := kara_mid m0 m1 n0 n1
  have hmid5 : RawAt w5 g5 zs5 (dig B64 ((m0 + m1) * (n0 + n1))).length ((m0 + m1) * (n0 + n1)) := ⟨hr5, hl5, by omega, by
    have : seg zs5 0 (dig B64 ((m0 + m1) * (n0 + n1))).length = zs5.take (dig B64 ((m0 + m1) * (n0 + n1))).length := by simp [seg]
    rw [this, ht5, val_dig b64_two]⟩
  have lmid : (dig B64 ((m0 + m1) * (n0 + n1))).length ≤ 2 * h + 2 := dig_len_le b64_two HBI.out.2.2
  have w2g : w2.heap.size ≤ g5 := Nat.le_trans hb3.size (Nat.le_trans hb4.size hg5)
  have d2 : Below w2.heap.size w2 w5 := (hb3.trans (hb4.mono hb3.size)).trans (hb5.mono (Nat.le_trans hb3.size hb4.size))
  have HK2 := Lib.hid hK2
  have HT5 := Lib.hid ht5
  clear hK2 ht5 hr5
  generalize (dig B64 ((m0 + m1) * (n0 + n1))).length = lm at *
  subst hcz5
  go_wp2_with (fail)
  refine (subFrom_raw g5 lm _ (m0 * n0) _ zs5 _ w2 _ hmid5 ⟨_, _, by rw [HL1.out], by rw [HL1.out]; exact hd1, k1'⟩ d2 w2g HK2.out.2.1 (by omega)).mono ?_
  rintro e w6 ⟨zs6, rfl, hmid6, hlen6, hgr6⟩
  have d3 : Below w2.heap.size w2 w6 := d2.grown hgr6 d2.size (fun k hk => by injection hk with hk; omega)
  go_wp2_with (fail)
  refine (subFrom_raw g5 lm _ (m1 * n1) _ zs6 _ w2 _ hmid6 ⟨_, _, by rw [HL2.out], by rw [HL2.out]; exact hd2, k2⟩ d3 w2g HK2.out.2.2 (by omega)).mono ?_
  rintro e w7 ⟨zs7, rfl, hmid7, hlen7, hgr7⟩
  have d4 : Below w2.heap.size w2 w7 := d3.grown hgr7 d3.size (fun k hk => by injection hk with hk; omega)
  rw [HK2.out.1] at hmid7
  have k1z := k1'.keep d4
  have k2z := k2.keep d4
  have hr0 := Row.made w7 .u64 (La + Lb) 24
  have hbA : Below w7.heap.size w7 (w7.alloc (.cells (madeCells #[.int .u64 0] (La + Lb)) 24)) := (Below.refl _ _).alloc (Nat.le_refl _) _
  have q1 := k1z.keep hbA
  have q2 := k2z.keep hbA
  have HR0 := Lib.hid hr0
  have hn1 : (lay (List.replicate (La + Lb) 0) 0 (dig B64 (m0 * n0))).length = La + Lb := by rw [lay_len (by simp only [List.length_replicate, HL1.out]; omega)]; simp
  have HN1 := Lib.hid hn1
  clear hr0 hn1
  go_wp2_with (first
    | (refine wpList_copy_row rfl (.tmp 57) (.tmp 58) rfl _ _ _ _ _ _ rfl rfl _ 0 _ _ HR0.out q1 HL1.out.symm (by omega) (fun _ => rfl) (by simp only [List.length_replicate]; omega) ?_
       intro w8 hr8 hg8
       have hb8 : Below w7.heap.size w7 w8 := hbA.grown hg8 hbA.size (by simp)
       have q3 := q2.grown (nums_ne k2z (Nat.le_refl _)) hg8)
    | (refine wpList_copy_row rfl (.tmp 63) (.tmp 64) rfl _ _ _ _ _ _ rfl rfl _ (2 * h) _ _ (by assumption) (by assumption) HL2.out.symm (by omega) (fun _ => rfl) (by rw [HN1.out]; omega) ?_
       intro w9 hr9 hg9
       have hb9 : Below w7.heap.size w7 w9 := hb8.grown hg9 hb8.size (by simp)))
  have ev : (h : Int) ≤ (La : Int) + (Lb : Int) := by omega
  have nv : ¬ La + Lb = h := by omega
  have q5 : Row .u64 24 w9.drew g5 zs7 := (hmid7.row.below hb9 hmid7.row.lt).drew
  have q6 := q5.nums0 lm
  have t1 := trim_any (some ⟨g5, 0, none⟩) zs5.length lm (zs7.take lm) w9.drew q6 (hmid7.low.take lm) (by rw [List.length_take, Nat.min_eq_left hmid7.le]) (by have := hmid7.le; omega) (by omega)
  have t2 : val B64 (zs7.take lm) = m0 * n1 + m1 * n0 := by have := hmid7.eq; simpa [seg] using this
  rw [t2] at t1
  have hmn : m * n = m0 * n0 + B64 ^ h * B64 ^ h * (m1 * n1) + B64 ^ h * (m0 * n1 + m1 * n0) := by
    have := kara_sum m0 m1 n0 n1 (B64 ^ h)
    rwa [HEM.out, HEN.out] at this
  have hml : m0 * n1 + m1 * n0 < B64 ^ (La + Lb - h) := mid_lt hmn (by rw [show h + (La + Lb - h) = La + Lb by omega]; exact HLT.out)
  have hl3 : (dig B64 (m0 * n1 + m1 * n0)).length ≤ La + Lb - h := dig_len_le b64_two hml
  have q7 := q6.take (dig B64 (m0 * n1 + m1 * n0)).length
  have q8 := trim_take b64_two (hmid7.low.take lm)
  rw [t2] at q8
  rw [q8] at q7
  obtain ⟨Z, hZ⟩ : ∃ Z, lay (lay (List.replicate (La + Lb) 0) 0 (dig B64 (m0 * n0))) (2 * h) (dig B64 (m1 * n1)) = Z := ⟨_, rfl⟩
  have zl : Z.length = La + Lb := by rw [← hZ, lay_len (by rw [HN1.out, HL2.out]; omega), HN1.out]
  have zlow : Low B64 Z := by rw [← hZ]; exact lay_low (lay_low (Low.replicate b64_pos _) (dig_low64 _)) (dig_low64 _)
  have zv : val B64 Z = m0 * n0 + B64 ^ h * B64 ^ h * (m1 * n1) := by
    rw [← hZ, val_two (by rw [HL1.out]; omega) (by rw [HL2.out]; omega), val_dig b64_two, val_dig b64_two, show 2 * h = h + h by omega, Nat.pow_add]
  have zv2 : val B64 Z + B64 ^ h * val B64 (dig B64 (m0 * n1 + m1 * n0)) = m * n := by rw [zv, hmn, val_dig b64_two]
  have zlt : m * n < B64 ^ Z.length := by rw [zl]; exact HLT.out
  rw [hZ] at hr9
  have hr10 := hr9.drew
  have g2 : w.heap.size ≤ g5 := Nat.le_trans c2.size w2g
  have c6 : Below w.heap.size w w7 := (c5'.grown hgr6 c5'.size (fun k hk => by injection hk with hk; omega)) |>.grown hgr7 (by have := c5'.size; have := hgr6.size; omega) (fun k hk => by injection hk with hk; omega)
  have c9 : Below w.heap.size w w9 := below_at c6 (Nat.le_refl _) hb9
  have c10 : Below w.heap.size w w9.drew := c9.drew
  have g7 : w.heap.size ≤ w7.heap.size := c6.size
  have g57 : g5 < w7.heap.size := hmid7.row.lt
  have TT := Lib.hid t1
  have T2 := Lib.hid t2
  have ZL := Lib.hid zl
  have ZV := Lib.hid zv2
  clear t1 t2 hmn q8 hZ zl zv zv2 hr9
  go_still_tail 5, (by kernel_rfl)
  still_call (TT.out.mono fun _ _ ⟨he, hm⟩ => ⟨he, hm.symm⟩)
  refine wpStill_nil ?_
  change wpList _ _ _ _ _ w9.drew
  generalize w9.drew = w10 at *
  go_wp2_with (first
    | (go_at_call 106
       refine (addTo_any w7.heap.size h (La + Lb - h) (La + Lb - h) _ _ Z _ _ _ hr10 zlow (by rw [ZL.out]; omega) q7 (dig_low64 _) (fun _ a ha => by injection ha with ha; subst ha; exact Nat.ne_of_lt g57) rfl hl3 (by omega)).mono ?_
       rintro e w11 ⟨zs', cy, rfl, hst, hr11, hg11⟩
       have hb11 : Below w.heap.size w w11 := c10.grown hg11 c10.size (fun k hk => by injection hk with hk; omega)
       have hl11 := hst.len.trans ZL.out
       have hn11 : Nums .u64 w11 (some ⟨w7.heap.size, 0, none⟩) zs' := by have := hr11.nums0 zs'.length; rwa [List.take_length] at this
       have HL11 := Lib.hid hl11
       clear hl11)
    | (go_at_call 78
       refine (trim_any _ (La + Lb) (La + Lb) zs' _ (by assumption) hst.low HL11.out.symm (Nat.le_refl _) (by omega)).mono ?_
       rintro e w12 ⟨rfl, rfl⟩))
  go_ret
  have hv := hst.whole (by rw [ZL.out]; omega) hl3 ZV.out zlt
  rw [← hv]
  refine ⟨_, rfl, ?_, hb11⟩
  have := own_of_trim b64_two hr11 hst.low g7
  rw [HL11.out] at this
  exact this
end Go.Proofs.Ytaegkhdkhgemmaa

namespace Go.Proofs.Ytaegkhdkhgemmaa
open Go.RowKit Num

/-- One block of a number. -/
theorem block_is (ga oa c m i j : Nat) (w : World) (hA : Nums .u64 w (some ⟨ga, oa, none⟩) (dig B64 m)) (hc : (dig B64 m).length ≤ c) (hij : i + j ≤ (dig B64 m).length) (hbig : (dig B64 m).length ≤ 1000000000) :
    (Calls Try.prog 78 #[.slice (some ⟨ga, oa + i, none⟩) j (c - i)] w fun e w' => e = .returned (.slice (some ⟨ga, oa + i, none⟩) (dig B64 (m / B64 ^ i % B64 ^ j)).length (c - i)) ∧ w = w')
    ∧ W64 w (.slice (some ⟨ga, oa + i, none⟩) (dig B64 (m / B64 ^ i % B64 ^ j)).length (c - i)) (m / B64 ^ i % B64 ^ j) := by
  obtain ⟨A, d, e, _, hN⟩ := high_is ga oa c m i w hA hc
  injection e with e1 e2 e3
  subst e1 e3
  have hl := dig_len_div b64_two m i
  exact ⟨low_half _ _ _ j w hN (by omega) (by omega) (by omega), low_is _ _ _ j w hN (by omega) (by omega)⟩
theorem mod_block (b m i j : Nat) : m % b ^ i + b ^ i * (m / b ^ i % b ^ j) = m % b ^ (i + j) := by
  rw [Nat.pow_add, Nat.mod_mul]

set_option maxHeartbeats 4000000 in
set_option maxRecDepth 100000 in
theorem blocks_any {K : Nat} (HM : MulSpec K) (ga oa c gb ob c' La Lb m n : Nat) (w : World) (hA : Nums .u64 w (some ⟨ga, oa, none⟩) (dig B64 m)) (hB : Nums .u64 w (some ⟨gb, ob, none⟩) (dig B64 n))
    (hLa : La = (dig B64 m).length) (hLb : Lb = (dig B64 n).length) (h80 : 80 ≤ Lb) (h2 : 2 * Lb ≤ La) (hc : La ≤ c) (hc' : Lb ≤ c') (hbig : La ≤ 1000000000) (hK : Lb ≤ K) :
    Calls Try.prog 129 #[.slice (some ⟨ga, oa, none⟩) La c, .slice (some ⟨gb, ob, none⟩) Lb c'] w (SumPost w (m * n)) := by
  have hmk := make64 (La + Lb) (by omega)
  push_cast at hmk
  have hr0 := Row.made w .u64 (La + Lb) 24
  have hbA : Below w.heap.size w (w.alloc (.cells (madeCells #[.int .u64 0] (La + Lb)) 24)) := (Below.refl _ _).alloc (Nat.le_refl _) _
  have hv0 : val B64 (List.replicate (La + Lb) 0) = m % B64 ^ 0 * n := by rw [val_replicate, Nat.pow_zero, Nat.mod_one, Nat.zero_mul]
  have hlt := Nat.mul_lt_mul_of_lt_of_lt (dig_len_lt b64_two (n := m)) (dig_len_lt b64_two (n := n))
  rw [← hLa, ← hLb, ← Nat.pow_add] at hlt
  have HLT := Lib.hid hlt
  have HV0 := Lib.hid hv0
  have HR0 := Lib.hid hr0
  have HA := Lib.hid hA
  have HB := Lib.hid hB
  have HLA := Lib.hid hLa
  have HLB := Lib.hid hLb
  have HMM := Lib.hid HM
  clear hA hB hLa hLb HM hr0 hv0 hlt
  go_enter Try.func129, Try.ntmps129
  go_wp2
  go_loopw [6] (fun t wr => ∃ (i : Nat) (zs : List Nat), i ≤ La + Lb ∧ t = .int .i64 (i : Int) ∧ zs.length = La + Lb ∧ Low B64 zs ∧ val B64 zs = m % B64 ^ i * n ∧ Row .u64 24 wr w.heap.size zs ∧ Below w.heap.size w wr) (fun t _ => La + Lb - (intOf t).toNat)
  case atStart => exact ⟨0, _, Nat.zero_le _, rfl, by simp, Low.replicate b64_pos _, HV0.out, HR0.out, hbA⟩
  case round =>
    clear HR0 HV0 hbA hmk
    obtain ⟨i, zs, hi, rfl, hzl, hzlow, hzv, hrow, hbl⟩ := hrel
    have HZL := Lib.hid hzl
    have HZV := Lib.hid hzv
    clear hzl hzv
    by_cases hlt : i < La
    · have hci : ¬ c = i := by omega
      have ev : (i : Int) ≤ (La : Int) + (Lb : Int) := by omega
      have nv : ¬ La + Lb = i := by omega
      obtain ⟨j, hj⟩ : ∃ j, (min ((i : Int) + (Lb : Int)) (La : Int)).toNat - i = j := ⟨_, rfl⟩
      have j1 : j ≤ Lb := by omega
      have j2 : i + j ≤ La := by omega
      have j3 : i + j = La ∨ j = Lb := by omega
      have HJ := Lib.hid hj
      have J3 := Lib.hid j3
      have bc := fun w (hA : Nums .u64 w (some ⟨ga, oa, none⟩) (dig B64 m)) => block_is ga oa c m i j w hA (by rw [← HLA.out]; exact hc) (by rw [← HLA.out]; exact j2) (by rw [← HLA.out]; exact hbig)
      have bl : (dig B64 (m / B64 ^ i % B64 ^ j)).length ≤ j := dig_len_mod b64_two _ _
      have bm := mod_block B64 m i j
      obtain ⟨mb, hmb⟩ : ∃ mb, m / B64 ^ i % B64 ^ j = mb := ⟨_, rfl⟩
      rw [hmb] at bc bl bm
      have BC := Lib.hid bc
      have BM := Lib.hid bm
      have hpl : (dig B64 (mb * n)).length ≤ La + Lb - i := by
        refine dig_len_le b64_two ?_
        have h1 := Nat.mul_lt_mul_of_lt_of_lt (lt_of_wlen bl) (dig_len_lt b64_two (n := n))
        rw [← HLB.out, ← Nat.pow_add] at h1
        exact Nat.lt_of_lt_of_le h1 (Nat.pow_le_pow_right b64_pos (by omega))
      clear hj j3 bc bm hmb
      go_wp2_with (go_at_call 78; rw [HJ.out]; refine ((BC.out _ (HA.out.keep hbl)).1).mono ?_; rintro e w1 ⟨rfl, rfl⟩)
      have hrow1 := hrow.drew
      have hbl1 : Below w.heap.size w wr.drew := hbl.drew
      have hgz : w.heap.size < wr.drew.heap.size := hrow1.lt
      clear hrow hbl
      have hmul := HMM.out _ _ mb n wr.drew ((BC.out _ (HA.out.keep hbl1)).2) ⟨_, _, by rw [← HLB.out], by rw [← HLB.out]; exact hc', HB.out.keep hbl1⟩ (by omega) (by rw [← HLB.out]; exact hK)
      have HMUL := Lib.hid hmul
      clear hmul
      go_region_with (first
        | (go_at_call 111
           refine HMUL.out.mono ?_
           rintro e w2 ⟨v2, rfl, ⟨g2, c2, zs2, rfl, hc2, hcz2, hg2, hr2, hl2, ht2⟩, hb2⟩
           have hrow2 := hrow1.below hb2 hgz
           have hn2 : Nums .u64 w2 (some ⟨g2, 0, none⟩) (dig B64 (mb * n)) := by have := hr2.nums0 (dig B64 (mb * n)).length; rwa [ht2] at this
           have hbl2 : Below w.heap.size w w2 := below_at hbl1 (Nat.le_refl _) hb2
           have HC2 := Lib.hid hcz2
           clear hcz2 ht2 hr2)
        | (go_at_call 106
           refine (addTo_any w.heap.size i (La + Lb - i) (La + Lb - i) _ _ zs _ _ _ hrow2 hzlow (by rw [HZL.out]; omega) hn2 (dig_low64 _) (fun _ a ha => by injection ha with ha; subst ha; exact Nat.ne_of_gt (Nat.lt_of_lt_of_le hgz hg2)) rfl hpl (by omega)).mono ?_
           rintro e w3 ⟨zs', cy, rfl, hst, hr3, hg3⟩
           have hbl3 : Below w.heap.size w w3 := hbl2.grown hg3 hbl2.size (fun k hk => by injection hk with hk; omega)))
      go_wp2_with (fail)
      go_roundw
      case rel =>
        refine ⟨i + Lb, zs', by omega, by go_num, hst.len.trans HZL.out, hst.low, ?_, hr3, hbl3⟩
        have e1 : m % B64 ^ (i + Lb) = m % B64 ^ (i + j) := by
          rcases J3.out with h | h
          · have hm : m < B64 ^ La := lt_of_wlen (by rw [← HLA.out]; exact Nat.le_refl _)
            rw [h, Nat.mod_eq_of_lt hm, Nat.mod_eq_of_lt (Nat.lt_of_lt_of_le hm (Nat.pow_le_pow_right b64_pos (by omega)))]
          · rw [h]
        refine hst.whole (by rw [HZL.out]; omega) hpl ?_ ?_
        · rw [HZV.out, val_dig b64_two, e1, ← BM.out, Nat.add_mul, Nat.mul_assoc]
        · rw [HZL.out]
          exact Nat.lt_of_le_of_lt (Nat.mul_le_mul_right _ (Nat.mod_le _ _)) HLT.out
      case measure => simp [intOf]; omega
    · have hm : m < B64 ^ La := lt_of_wlen (by rw [← HLA.out]; exact Nat.le_refl _)
      have hv : val B64 zs = m * n := by rw [HZV.out, Nat.mod_eq_of_lt (Nat.lt_of_lt_of_le hm (Nat.pow_le_pow_right b64_pos (by omega)))]
      have hn := hrow.nums0 zs.length
      rw [List.take_length] at hn
      have HV := Lib.hid hv
      clear hv
      go_wp2_with (go_at_call 78
                   refine (trim_any _ (La + Lb) (La + Lb) zs _ hn hzlow HZL.out.symm (Nat.le_refl _) (by omega)).mono ?_
                   rintro e w1 ⟨rfl, rfl⟩)
      go_ret
      rw [← HV.out]
      refine ⟨_, rfl, ?_, hbl⟩
      have := own_of_trim b64_two hrow hzlow (Nat.le_refl w.heap.size)
      rw [HZL.out] at this
      exact this
end Go.Proofs.Ytaegkhdkhgemmaa

namespace Go.Proofs.Ytaegkhdkhgemmaa
open Go.RowKit Num

/-- Karatsuba's and the blocks' method, whichever multiply picks. -/
theorem big_ways {N : Nat} (HM : MulSpec (N - 1)) (A A' : Option Addr) (c c' La Lb m n : Nat) (w : World) (hA : Nums .u64 w A (dig B64 m)) (hB : Nums .u64 w A' (dig B64 n)) (hLa : La = (dig B64 m).length) (hLb : Lb = (dig B64 n).length)
    (h80 : 80 ≤ Lb) (hle : Lb ≤ La) (hc : La ≤ c) (hc' : Lb ≤ c') (hbig : La ≤ 1000000000) (hN : La ≤ N) :
    (La < 2 * Lb → Calls Try.prog 130 #[.slice A La c, .slice A' Lb c'] w (SumPost w (m * n))) ∧ (2 * Lb ≤ La → Calls Try.prog 129 #[.slice A La c, .slice A' Lb c'] w (SumPost w (m * n))) := by
  obtain ⟨ga, oa, rfl, _, _⟩ := hA (by omega)
  obtain ⟨gb, ob, rfl, _, _⟩ := hB (by omega)
  refine ⟨fun h2 => ?_, fun h2 => blocks_any HM ga oa c gb ob c' La Lb m n w hA hB hLa hLb h80 h2 hc hc' hbig (by omega)⟩
  by_cases hcb : c' = (La + 1) / 2
  · exact kara_eq HM ga oa c gb ob c' La Lb m n w hA hB hLa hLb h80 hle h2 hc hc' hbig (by omega) hcb
  · exact kara_any HM ga oa c gb ob c' La Lb m n w hA hB hLa hLb h80 hle h2 hc hc' hbig (by omega) hcb

set_option maxHeartbeats 400000 in
theorem mul_step {N : Nat} (HM : MulSpec (N - 1)) (a b : Value) (m n : Nat) (w : World) (ha : W64 w a m) (hb : W64 w b n) (hm : (dig B64 m).length ≤ N) (hn : (dig B64 n).length ≤ N) (hbig : N ≤ 1000000000)
    (h80 : 80 ≤ (dig B64 m).length) (h80' : 80 ≤ (dig B64 n).length) : Calls Try.prog 111 #[a, b] w (SumPost w (m * n)) := by
  obtain ⟨A, c, rfl, hc, hA⟩ := ha
  obtain ⟨A', c', rfl, hc', hA'⟩ := hb
  generalize hL : (dig B64 m).length = L at *
  generalize hL' : (dig B64 n).length = L' at *
  by_cases hlt : L < L'
  · have h := big_ways HM A' A c' c L' L n m w hA' hA hL'.symm hL.symm h80 (by omega) hc' hc (by omega) hn
    rw [Nat.mul_comm n m] at h
    have H := Lib.hid h
    clear h hL hL' HM hA hA'
    by_cases h2 : L' < 2 * L
    · go_enter Try.func111, Try.ntmps111
      go_wp2_with (go_at_call 130; refine (H.out.1 h2).mono ?_; rintro e w1 ⟨v, rfl, hv, hb1⟩)
      go_ret
      exact ⟨_, rfl, hv, hb1⟩
    · go_enter Try.func111, Try.ntmps111
      go_wp2_with (go_at_call 129; refine (H.out.2 (by omega)).mono ?_; rintro e w1 ⟨v, rfl, hv, hb1⟩)
      go_ret
      exact ⟨_, rfl, hv, hb1⟩
  · have h := big_ways HM A A' c c' L L' m n w hA hA' hL.symm hL'.symm h80' (by omega) hc hc' (by omega) hm
    have H := Lib.hid h
    clear h hL hL' HM hA hA'
    by_cases h2 : L < 2 * L'
    · go_enter Try.func111, Try.ntmps111
      go_wp2_with (go_at_call 130; refine (H.out.1 h2).mono ?_; rintro e w1 ⟨v, rfl, hv, hb1⟩)
      go_ret
      exact ⟨_, rfl, hv, hb1⟩
    · go_enter Try.func111, Try.ntmps111
      go_wp2_with (go_at_call 129; refine (H.out.2 (by omega)).mono ?_; rintro e w1 ⟨v, rfl, hv, hb1⟩)
      go_ret
      exact ⟨_, rfl, hv, hb1⟩

/-- multiply, whatever the factors' lengths. -/
theorem mulSpec_all : ∀ N, N ≤ 1000000000 → MulSpec N := by
  intro N
  induction N with
  | zero => exact fun _ a b m n w ha hb hm hn => mul_short a b m n w ha hb (by omega) (by omega) (.inl (by omega))
  | succ N ih =>
    intro h a b m n w ha hb hm hn
    by_cases h1 : (dig B64 m).length ≤ 79
    · exact mul_short a b m n w ha hb (by omega) (by omega) (.inl h1)
    · by_cases h2 : (dig B64 n).length ≤ 79
      · exact mul_short a b m n w ha hb (by omega) (by omega) (.inr h2)
      · exact mul_step (N := N + 1) (ih (by omega)) a b m n w ha hb hm hn h (by omega) (by omega)
theorem mulAt_all {m n : Nat} (hm : (dig B64 m).length ≤ 1000000000) (hn : (dig B64 n).length ≤ 1000000000) : MulAt m n := fun a b w ha hb => mulSpec_all _ (Nat.le_refl _) a b m n w ha hb hm hn
end Go.Proofs.Ytaegkhdkhgemmaa

namespace Go.Proofs.Num

/-- zs holds, in its first k places, the digits of p times X less q times Y (the first k of each), but for o that is carried; the other places still hold those of O. -/
structure ApSt (b : Nat) (X Y O : List Nat) (p q : Nat) (k : Nat) (zs : List Nat) (o : Int) : Prop where
  len : zs.length = O.length
  low : Low b zs
  rest : ∀ i, k ≤ i → zs[i]? = O[i]?
  eq : (val b (zs.take k) : Int) + (b ^ k : Nat) * o = (p : Int) * (val b (X.take k) : Nat) - (q : Int) * (val b (Y.take k) : Nat)

theorem ApSt.start {b : Nat} {X Y O : List Nat} {p q : Nat} (hO : Low b O) : ApSt b X Y O p q 0 O 0 :=
  ⟨rfl, hO, fun _ _ => rfl, by simp [val]⟩

theorem ApSt.step {b : Nat} {X Y O zs : List Nat} {p q k lo v x : Nat} {o o' : Int} (h : ApSt b X Y O p q k zs o) (hv : X[k]? = some v) (hx : Y[k]? = some x) (hk : k < O.length) (hlo : lo < b)
    (he : (p : Int) * v - (q : Int) * x + o = lo + (b : Int) * o') : ApSt b X Y O p q (k + 1) (zs.set k lo) o' := by
  obtain ⟨hX, rfl⟩ := List.getElem?_eq_some_iff.1 hv
  obtain ⟨hY, rfl⟩ := List.getElem?_eq_some_iff.1 hx
  refine ⟨by simp [h.len], h.low.set hlo, fun i hi => ?_, ?_⟩
  · rw [List.getElem?_set_ne (by omega)]; exact h.rest i (by omega)
  · rw [val_take_succ b X k hX, val_take_succ b Y k hY, val_take_succ b (zs.set k lo) k (by simp [h.len]; exact hk), List.getElem_set_self, List.take_set_of_le (Nat.le_refl k)]
    have e := h.eq
    rw [Nat.pow_succ]
    simp only [Int.natCast_add, Int.natCast_mul]
    generalize X[k] = v at *
    generalize Y[k] = x at *
    grind

theorem ApSt.fin {b : Nat} {X Y O zs : List Nat} {p q L t : Nat} {o : Int} (h : ApSt b X Y O p q L zs o) (hO : O.length = L) (hX : X.length = L) (hY : Y.length = L)
    (ht : (t : Int) = (p : Int) * (val b X : Nat) - (q : Int) * (val b Y : Nat)) (htl : t < b ^ L) : val b zs = t := by
  have e := h.eq
  rw [List.take_of_length_le (by rw [h.len]; omega), List.take_of_length_le (by omega), List.take_of_length_le (by omega), ← ht] at e
  have hl := val_lt b zs h.low
  rw [h.len, hO] at hl
  generalize b ^ L = P at *
  generalize val b zs = z at *
  rcases Int.lt_trichotomy o 0 with h1 | h1 | h1
  · have := Int.mul_le_mul_of_nonneg_left (show o ≤ -1 by omega) (show (0 : Int) ≤ (P : Int) by omega)
    omega
  · subst h1; omega
  · have := Int.mul_le_mul_of_nonneg_left (show 1 ≤ o by omega) (show (0 : Int) ≤ (P : Int) by omega)
    omega
end Go.Proofs.Num
