/- The words of the dump's head, one by one, so that the kernel need not read the whole head at once: then what the form asks of them. -/
import Derived.Test.YtpaemlkikkcjiaaRows
import Derived.JoinedOf
import Derived.KernelRfl
namespace Go.Proofs.Ytpaemlkikkcjiaa

/-- A blank. -/
def sp : Char := Char.ofNat 32
def joinSp : List (List Char) → List Char
  | [] => []
  | [w] => w
  | w :: v :: ws => w ++ sp :: joinSp (v :: ws)

theorem wordsSigns_blank (r : List Char) : wordsSigns (sp :: r) = [] :: wordsSigns r := rfl
theorem wordsSigns_ne (r : List Char) : wordsSigns r ≠ [] := by
  intro h
  unfold wordsSigns at h
  split at h
  · cases h
  · cases h
  · split at h <;> cases h
theorem wordsSigns_other (c : Char) (r : List Char) (h : c ≠ sp) : ∃ w ws, wordsSigns r = w :: ws ∧ wordsSigns (c :: r) = (c :: w) :: ws := by
  cases e : wordsSigns r with
  | nil => exact absurd e (wordsSigns_ne r)
  | cons w ws =>
    refine ⟨w, ws, rfl, ?_⟩
    rw [wordsSigns.eq_3 c r (fun hc => h hc), e]
theorem wordsSigns_word (w r : List Char) (h : ∀ c ∈ w, c ≠ sp) : wordsSigns (w ++ sp :: r) = w :: wordsSigns r := by
  induction w with
  | nil => exact wordsSigns_blank r
  | cons c w ih =>
    obtain ⟨v, vs, h1, h2⟩ := wordsSigns_other c (w ++ sp :: r) (h c (by simp))
    rw [ih fun d hd => h d (by simp [hd])] at h1
    injection h1 with h3 h4
    rw [List.cons_append, h2, ← h3, ← h4]
theorem wordsSigns_last (w : List Char) (h : ∀ c ∈ w, c ≠ sp) : wordsSigns w = [w] := by
  induction w with
  | nil => rfl
  | cons c w ih =>
    obtain ⟨v, vs, h1, h2⟩ := wordsSigns_other c w (h c (by simp))
    rw [ih fun d hd => h d (by simp [hd])] at h1
    injection h1 with h3 h4
    rw [h2, ← h3, ← h4]
theorem wordsSigns_join (ws : List (List Char)) (hne : ws ≠ []) (h : ∀ w ∈ ws, ∀ c ∈ w, c ≠ sp) : wordsSigns (joinSp ws) = ws := by
  induction ws with
  | nil => exact absurd rfl hne
  | cons w ws ih =>
    cases ws with
    | nil => exact wordsSigns_last w (h w (by simp))
    | cons v vs =>
      show wordsSigns (w ++ sp :: joinSp (v :: vs)) = _
      rw [wordsSigns_word w _ (h w (by simp)), ih (by simp) fun u hu => h u (by simp [hu])]

def headCodes : List (List Nat) := [
  [104, 97, 114, 110, 101, 115, 115],
  [50, 56, 101, 102, 97, 55, 52, 100, 102, 49, 50, 48, 55, 98, 56, 51, 100, 97, 56, 98, 100, 98, 48, 97, 98, 57, 50, 57, 97, 50, 52, 50, 100, 98, 54, 55, 50, 101, 100, 50, 97, 49, 102, 102, 99, 97, 48, 49, 98, 57, 49, 102, 97, 51, 50, 57, 98, 48, 52, 52, 48, 56, 97, 100],
  [99, 117, 116],
  [97, 116],
  [99, 108, 97, 118, 101, 99, 105, 110, 47, 99, 108, 97, 118, 101, 99, 105, 110, 108, 97, 119, 48, 54, 46, 65, 99, 116, 105, 111, 110, 82, 101, 103, 117, 108, 97, 116, 101, 115],
  [99, 108, 97, 118, 101, 99, 105, 110, 47, 99, 108, 97, 118, 101, 99, 105, 110, 108, 97, 119, 48, 54, 46, 65, 99, 116, 105, 111, 110, 72, 105, 103, 104, 101, 115, 116, 115],
  [99, 108, 97, 118, 101, 99, 105, 110, 47, 99, 108, 97, 118, 101, 99, 105, 110, 108, 97, 119, 48, 54, 46, 65, 99, 116, 105, 111, 110, 67, 108, 97, 115, 104, 101, 115],
  [99, 108, 97, 118, 101, 99, 105, 110, 47, 99, 108, 97, 118, 101, 99, 105, 110, 108, 97, 119, 48, 54, 46, 65, 99, 116, 105, 111, 110, 83, 108, 97, 99, 107, 115],
  [99, 108, 97, 118, 101, 99, 105, 110, 47, 99, 108, 97, 118, 101, 99, 105, 110, 108, 97, 119, 48, 54, 46, 65, 99, 116, 105, 111, 110, 80, 108, 97, 121, 115],
  [99, 108, 97, 118, 101, 99, 105, 110, 47, 99, 108, 97, 118, 101, 99, 105, 110, 108, 97, 119, 48, 54, 46, 65, 99, 116, 105, 111, 110, 82, 117, 110, 115],
  [99, 108, 97, 118, 101, 99, 105, 110, 47, 99, 108, 97, 118, 101, 99, 105, 110, 108, 97, 119, 48, 54, 46, 65, 99, 116, 105, 111, 110, 67, 111, 117, 110, 116, 115],
  [99, 108, 97, 118, 101, 99, 105, 110, 47, 99, 108, 97, 118, 101, 99, 105, 110, 108, 97, 119, 48, 54, 46, 65, 99, 116, 105, 111, 110, 82, 101, 97, 100, 115],
  [99, 108, 97, 118, 101, 99, 105, 110, 47, 99, 108, 97, 118, 101, 99, 105, 110, 108, 97, 119, 48, 54, 46, 65, 99, 116, 105, 111, 110, 76, 101, 97, 115, 116],
  [99, 108, 97, 118, 101, 99, 105, 110, 47, 99, 108, 97, 118, 101, 99, 105, 110, 108, 97, 119, 48, 54, 46, 65, 99, 116, 105, 111, 110, 71, 114, 101, 97, 116, 101, 115, 116],
  [99, 108, 97, 118, 101, 99, 105, 110, 47, 99, 108, 97, 118, 101, 99, 105, 110, 108, 97, 119, 48, 54, 46, 65, 99, 116, 105, 111, 110, 69, 105, 116, 104, 101, 114],
  [99, 108, 97, 118, 101, 99, 105, 110, 47, 99, 108, 97, 118, 101, 99, 105, 110, 108, 97, 119, 48, 54, 46, 65, 99, 116, 105, 111, 110, 84, 105, 103, 104, 116, 101, 114],
  [99, 108, 97, 118, 101, 99, 105, 110, 47, 99, 108, 97, 118, 101, 99, 105, 110, 108, 97, 119, 48, 54, 46, 65, 99, 116, 105, 111, 110, 79, 110, 99, 101],
  [99, 108, 97, 118, 101, 99, 105, 110, 47, 99, 108, 97, 118, 101, 99, 105, 110, 108, 97, 119, 48, 54, 46, 65, 99, 116, 105, 111, 110, 83, 111, 117, 110, 100, 115],
  [99, 108, 97, 118, 101, 99, 105, 110, 47, 99, 108, 97, 118, 101, 99, 105, 110, 108, 97, 119, 48, 54, 46, 65, 99, 116, 105, 111, 110, 83, 116, 114, 111, 107, 101],
  [99, 108, 97, 118, 101, 99, 105, 110, 47, 99, 108, 97, 118, 101, 99, 105, 110, 108, 97, 119, 48, 54, 46, 65, 99, 116, 105, 111, 110, 84, 105, 99, 107, 115],
  [99, 108, 97, 118, 101, 99, 105, 110, 47, 99, 108, 97, 118, 101, 99, 105, 110, 108, 97, 119, 48, 54, 46, 65, 99, 116, 105, 111, 110, 65, 112, 97, 114, 116],
  [99, 108, 97, 118, 101, 99, 105, 110, 47, 99, 108, 97, 118, 101, 99, 105, 110, 108, 97, 119, 48, 54, 46, 65, 99, 116, 105, 111, 110, 67, 108, 111, 110, 101, 100],
  [99, 108, 97, 118, 101, 99, 105, 110, 47, 99, 108, 97, 118, 101, 99, 105, 110, 108, 97, 119, 48, 54, 46, 65, 99, 116, 105, 111, 110, 78, 111, 98, 111, 100, 121],
  [99, 108, 97, 118, 101, 99, 105, 110, 47, 99, 108, 97, 118, 101, 99, 105, 110, 116, 111, 112, 46, 84, 111, 112, 82, 101, 103, 117, 108, 97, 116, 101, 100]]
def headWords : List (List Char) := headCodes.map fun w => w.map Char.ofNat
set_option maxRecDepth 100000 in
theorem order_signs : Try.prog.initOrder = String.ofList (joinSp headWords) := by kernel_rfl
set_option maxRecDepth 100000 in
theorem no_blank : (headWords.all fun w => w.all fun c => c != sp) = true := by kernel_rfl
theorem order_words : wordsSigns Try.prog.initOrder.toList = headWords := by
  rw [order_signs, String.toList_ofList]
  refine wordsSigns_join headWords (by simp [headWords, headCodes]) fun w hw c hc => ?_
  have h := no_blank
  rw [List.all_eq_true] at h
  have h2 := h w hw
  rw [List.all_eq_true] at h2
  simpa using h2 c hc

theorem behind : behindMainWord (wordsSigns Try.prog.initOrder.toList) = headWords.drop 2 := by
  have h : behindMainWord headWords = headWords.drop 2 := by kernel_rfl
  rw [order_words]; exact h
def cutW : List Char := ([99, 117, 116] : List Nat).map Char.ofNat
theorem drop2 : headWords.drop 2 = cutW :: headWords.drop 3 := by kernel_rfl
theorem isCut : (cutW == "cut".toList) = true := by kernel_rfl
theorem notGc : (cutW == "gc".toList || cutW == "spec".toList) = false := by kernel_rfl
theorem notCarried : (cutW == "carried".toList) = false := by kernel_rfl
theorem make_of {P : Program} {c : List Char} {rest : List (List Char)} (h : behindMainWord (wordsSigns P.initOrder.toList) = c :: rest) (h1 : (c == "gc".toList || c == "spec".toList) = false) (h2 : (c == "cut".toList) = true) : P.make = some .cut := by
  unfold Program.make
  rw [h]
  simp only [h1, h2, Bool.true_or, if_true]
  simp
theorem make_cut : Try.prog.make = some .cut := make_of (behind.trans drop2) notGc isCut
theorem headLifts_of {P : Program} {ws : List (List Char)} (h : behindMainWord (wordsSigns P.initOrder.toList) = ws) (hs : stripLifts liftWords ws = ([], ws)) : P.headLifts = [] := by
  unfold Program.headLifts
  rw [h, hs]
  simp
theorem liftsFinal_of {P : Program} {c : List Char} {rest : List (List Char)} (h : behindMainWord (wordsSigns P.initOrder.toList) = c :: rest) (hc : (c == "carried".toList) = false) (hl : P.headLifts = []) : P.liftsFinal = false := by
  unfold Program.liftsFinal
  rw [h, hl]
  have e : (some c == some "carried".toList) = false := hc
  simp only [List.head?_cons, e, Bool.false_and, Bool.false_or]
  rfl
theorem mayEnter_of {P : Program} {c : List Char} {rest : List (List Char)} (h : behindMainWord (wordsSigns P.initOrder.toList) = c :: rest) (hs : stripLifts liftWords (c :: rest) = ([], c :: rest)) (hc : (c == "cut".toList) = true)
    (h1 : P.laysLater = false) (h2 : P.bearsReflect = false) (h3 : P.doorFits [] = true) : P.mayEnter = true := by
  have e : (some c == some "cut".toList) = true := hc
  unfold Program.mayEnter
  rw [h]
  simp only [hs, h1, h2, h3, List.head?_cons, e]
  simp
set_option maxRecDepth 100000 in
theorem lays_no : Try.prog.laysLater = false := by kernel_rfl
set_option maxRecDepth 100000 in
theorem reflect_no : Try.prog.bearsReflect = false := by kernel_rfl
set_option maxRecDepth 100000 in
theorem door_fits : Try.prog.doorFits [] = true := by kernel_rfl
set_option maxRecDepth 100000 in
theorem strip_no : stripLifts liftWords (cutW :: headWords.drop 3) = ([], cutW :: headWords.drop 3) := by kernel_rfl
theorem lifts_no : Try.prog.liftsFinal = false := liftsFinal_of (behind.trans drop2) notCarried (headLifts_of (behind.trans drop2) strip_no)
theorem may_enter : Try.prog.mayEnter = true := mayEnter_of (behind.trans drop2) strip_no isCut lays_no reflect_no door_fits

theorem and_t {a b : Bool} (h : a = true) (k : b = true) : (a && b) = true := by rw [h, k]; rfl
theorem lifted_fact (c : OpenClaim) (h : c.lifted = false) : (c.lifted == Try.prog.liftsFinal) = true := by rw [lifts_no, h]; rfl
theorem make_fact (c : OpenClaim) (h : c.make = .cut) : (Try.prog.make == some c.make) = true := by rw [make_cut, h]; rfl
end Go.Proofs.Ytpaemlkikkcjiaa
