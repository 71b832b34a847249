/-
  No cell of these rows narrows 'for every input' (looked for: loops, veiled, ifaces, maps, wideKeys, modest, calm, conditions, laid).
  DERIVED. THE GIVEN ROWS OF THIS SEAT. 23 by the template 'for every input the law returns true; each argument reads behind the call as it read before'; 0 by the template 'total and deterministic' (their statements: YtaegkhdkhgemmaaTotals.lean).
  GIVEN WITH THE SEED: the statements are not yours to turn. If you find one false, say at which input.
  Laid BY PROGRAM, IN A SANDBOX (cutbox-rows.mjs): the forced cells as the released guide's own fill.sh prints them over the translation 18b329ef21d8f6a1… (all of the seat's roots in one cut). By AI agents, Wed Nov 11 2026. No macro, syntax, notation, axiom, sorry.
-/
import Derived.Test.YtaegkhdkhgemmaaChecked
import GoSem.Claim
import GoSem.ClaimJoined
import GoSem.ClaimMapViews
import Derived.JoinedTies
import Derived.KernelRfl
namespace Go.Proofs.Ytaegkhdkhgemmaa
/- THE CELL 'sum', in the pinned program and in every row, IS THE sha256 OF THE DUMP (.gsa) THAT YtaegkhdkhgemmaaProg.lean LOADS. Nothing in Lean hashes anything: it is a label: what it is worth is what the hold of that sum in a sandbox is worth. -/
noncomputable def Try.pinned : Pinned := { name := "ytaegkhdkhgemmaa", sum := "18b329ef21d8f6a1faced3ae080b4ff882bd754ac5c771ff0c084c9e2505dd6f", checked := Try.checked }
namespace Rows
def none {H : Type} : Left H := { results := [], args := [] }

/-- 'clavecinlaw01.NatChecks': WHATEVER THE INPUT: true; the input reads as it did. -/
def natChecksSpec : ChangeSpec := { name := "natChecks", fn := fun _ => fun
  | [d1, d2] => { results := [.lit (.bool true)], args := [d1, d2] }
  | _ => none }
def natChecksRow : OpenClaim := { program := "ytaegkhdkhgemmaa", sum := "18b329ef21d8f6a1faced3ae080b4ff882bd754ac5c771ff0c084c9e2505dd6f", func := "clavecin/clavecinlaw01.NatChecks", spec := "natChecks", inPlace := ["math/bits.Add64", "math/bits.Sub64"], recurses := true, named := ["math/bits.divideError", "math/bits.overflowError"], apart := false }
def NatChecksSaid : Prop := natChecksRow.holds Try.pinned (OpenSpec.ofChange natChecksSpec)

/-- ITS FALSE NEIGHBOUR: 'it returns false'. Refute it at one input. -/
def natChecksWrong : ChangeSpec := { name := "natChecks", fn := fun _ => fun
  | [d1, d2] => { results := [.lit (.bool false)], args := [d1, d2] }
  | _ => none }
def NatChecksWrongFalsely : Prop := natChecksRow.holds Try.pinned (OpenSpec.ofChange natChecksWrong)

/-- 'clavecinlaw01.NatAdds': WHATEVER THE INPUT: true; the input reads as it did. -/
def natAddsSpec : ChangeSpec := { name := "natAdds", fn := fun _ => fun
  | [d1, d2] => { results := [.lit (.bool true)], args := [d1, d2] }
  | _ => none }
def natAddsRow : OpenClaim := { program := "ytaegkhdkhgemmaa", sum := "18b329ef21d8f6a1faced3ae080b4ff882bd754ac5c771ff0c084c9e2505dd6f", func := "clavecin/clavecinlaw01.NatAdds", spec := "natAdds", inPlace := ["math/bits.Add64", "math/bits.Sub64"], recurses := true, named := ["math/bits.divideError", "math/bits.overflowError"], apart := false }
def NatAddsSaid : Prop := natAddsRow.holds Try.pinned (OpenSpec.ofChange natAddsSpec)

/-- ITS FALSE NEIGHBOUR: 'it returns false'. Refute it at one input. -/
def natAddsWrong : ChangeSpec := { name := "natAdds", fn := fun _ => fun
  | [d1, d2] => { results := [.lit (.bool false)], args := [d1, d2] }
  | _ => none }
def NatAddsWrongFalsely : Prop := natAddsRow.holds Try.pinned (OpenSpec.ofChange natAddsWrong)

/-- 'clavecinlaw01.NatMuls': WHATEVER THE INPUT: true; the input reads as it did. -/
def natMulsSpec : ChangeSpec := { name := "natMuls", fn := fun _ => fun
  | [d1, d2] => { results := [.lit (.bool true)], args := [d1, d2] }
  | _ => none }
def natMulsRow : OpenClaim := { program := "ytaegkhdkhgemmaa", sum := "18b329ef21d8f6a1faced3ae080b4ff882bd754ac5c771ff0c084c9e2505dd6f", func := "clavecin/clavecinlaw01.NatMuls", spec := "natMuls", inPlace := ["math/bits.Add64", "math/bits.Sub64"], recurses := true, named := ["math/bits.divideError", "math/bits.overflowError"], apart := false }
def NatMulsSaid : Prop := natMulsRow.holds Try.pinned (OpenSpec.ofChange natMulsSpec)

/-- ITS FALSE NEIGHBOUR: 'it returns false'. Refute it at one input. -/
def natMulsWrong : ChangeSpec := { name := "natMuls", fn := fun _ => fun
  | [d1, d2] => { results := [.lit (.bool false)], args := [d1, d2] }
  | _ => none }
def NatMulsWrongFalsely : Prop := natMulsRow.holds Try.pinned (OpenSpec.ofChange natMulsWrong)

/-- 'clavecinlaw01.NatDivides': WHATEVER THE INPUT: true; the input reads as it did. -/
def natDividesSpec : ChangeSpec := { name := "natDivides", fn := fun _ => fun
  | [d1, d2] => { results := [.lit (.bool true)], args := [d1, d2] }
  | _ => none }
def natDividesRow : OpenClaim := { program := "ytaegkhdkhgemmaa", sum := "18b329ef21d8f6a1faced3ae080b4ff882bd754ac5c771ff0c084c9e2505dd6f", func := "clavecin/clavecinlaw01.NatDivides", spec := "natDivides", inPlace := ["math/bits.Sub64", "math/bits.Add64"], recurses := true, named := ["math/bits.divideError", "math/bits.overflowError"], apart := false }
def NatDividesSaid : Prop := natDividesRow.holds Try.pinned (OpenSpec.ofChange natDividesSpec)

/-- ITS FALSE NEIGHBOUR: 'it returns false'. Refute it at one input. -/
def natDividesWrong : ChangeSpec := { name := "natDivides", fn := fun _ => fun
  | [d1, d2] => { results := [.lit (.bool false)], args := [d1, d2] }
  | _ => none }
def NatDividesWrongFalsely : Prop := natDividesRow.holds Try.pinned (OpenSpec.ofChange natDividesWrong)

/-- 'clavecinlaw01.NatShifts': WHATEVER THE INPUT: true; the input reads as it did. -/
def natShiftsSpec : ChangeSpec := { name := "natShifts", fn := fun _ => fun
  | [d1, d2] => { results := [.lit (.bool true)], args := [d1, d2] }
  | _ => none }
def natShiftsRow : OpenClaim := { program := "ytaegkhdkhgemmaa", sum := "18b329ef21d8f6a1faced3ae080b4ff882bd754ac5c771ff0c084c9e2505dd6f", func := "clavecin/clavecinlaw01.NatShifts", spec := "natShifts", inPlace := ["math/bits.Add64", "math/bits.Sub64"], recurses := true, named := ["math/bits.divideError", "math/bits.overflowError"], apart := false }
def NatShiftsSaid : Prop := natShiftsRow.holds Try.pinned (OpenSpec.ofChange natShiftsSpec)

/-- ITS FALSE NEIGHBOUR: 'it returns false'. Refute it at one input. -/
def natShiftsWrong : ChangeSpec := { name := "natShifts", fn := fun _ => fun
  | [d1, d2] => { results := [.lit (.bool false)], args := [d1, d2] }
  | _ => none }
def NatShiftsWrongFalsely : Prop := natShiftsRow.holds Try.pinned (OpenSpec.ofChange natShiftsWrong)

/-- 'clavecinlaw01.NatPowers': WHATEVER THE INPUT: true; the input reads as it did. -/
def natPowersSpec : ChangeSpec := { name := "natPowers", fn := fun _ => fun
  | [d1, d2] => { results := [.lit (.bool true)], args := [d1, d2] }
  | _ => none }
def natPowersRow : OpenClaim := { program := "ytaegkhdkhgemmaa", sum := "18b329ef21d8f6a1faced3ae080b4ff882bd754ac5c771ff0c084c9e2505dd6f", func := "clavecin/clavecinlaw01.NatPowers", spec := "natPowers", inPlace := ["math/bits.Add64", "math/bits.Sub64"], recurses := true, named := ["math/bits.divideError", "math/bits.overflowError"], apart := false }
def NatPowersSaid : Prop := natPowersRow.holds Try.pinned (OpenSpec.ofChange natPowersSpec)

/-- ITS FALSE NEIGHBOUR: 'it returns false'. Refute it at one input. -/
def natPowersWrong : ChangeSpec := { name := "natPowers", fn := fun _ => fun
  | [d1, d2] => { results := [.lit (.bool false)], args := [d1, d2] }
  | _ => none }
def NatPowersWrongFalsely : Prop := natPowersRow.holds Try.pinned (OpenSpec.ofChange natPowersWrong)

/-- 'clavecinlaw01.NatPowMods': WHATEVER THE INPUT: true; the input reads as it did. -/
def natPowModsSpec : ChangeSpec := { name := "natPowMods", fn := fun _ => fun
  | [d1, d2, d3] => { results := [.lit (.bool true)], args := [d1, d2, d3] }
  | _ => none }
def natPowModsRow : OpenClaim := { program := "ytaegkhdkhgemmaa", sum := "18b329ef21d8f6a1faced3ae080b4ff882bd754ac5c771ff0c084c9e2505dd6f", func := "clavecin/clavecinlaw01.NatPowMods", spec := "natPowMods", inPlace := ["math/bits.Sub64", "math/bits.Add64"], recurses := true, named := ["math/bits.divideError", "math/bits.overflowError"], apart := false }
def NatPowModsSaid : Prop := natPowModsRow.holds Try.pinned (OpenSpec.ofChange natPowModsSpec)

/-- ITS FALSE NEIGHBOUR: 'it returns false'. Refute it at one input. -/
def natPowModsWrong : ChangeSpec := { name := "natPowMods", fn := fun _ => fun
  | [d1, d2, d3] => { results := [.lit (.bool false)], args := [d1, d2, d3] }
  | _ => none }
def NatPowModsWrongFalsely : Prop := natPowModsRow.holds Try.pinned (OpenSpec.ofChange natPowModsWrong)

/-- 'clavecinlaw01.NatRoots': WHATEVER THE INPUT: true; the input reads as it did. -/
def natRootsSpec : ChangeSpec := { name := "natRoots", fn := fun _ => fun
  | [d1, d2] => { results := [.lit (.bool true)], args := [d1, d2] }
  | _ => none }
def natRootsRow : OpenClaim := { program := "ytaegkhdkhgemmaa", sum := "18b329ef21d8f6a1faced3ae080b4ff882bd754ac5c771ff0c084c9e2505dd6f", func := "clavecin/clavecinlaw01.NatRoots", spec := "natRoots", inPlace := ["math/bits.Add64", "math/bits.Sub64"], recurses := true, named := ["math/bits.divideError", "math/bits.overflowError"], apart := false }
def NatRootsSaid : Prop := natRootsRow.holds Try.pinned (OpenSpec.ofChange natRootsSpec)

/-- ITS FALSE NEIGHBOUR: 'it returns false'. Refute it at one input. -/
def natRootsWrong : ChangeSpec := { name := "natRoots", fn := fun _ => fun
  | [d1, d2] => { results := [.lit (.bool false)], args := [d1, d2] }
  | _ => none }
def NatRootsWrongFalsely : Prop := natRootsRow.holds Try.pinned (OpenSpec.ofChange natRootsWrong)

/-- 'clavecinlaw01.NatGcds': WHATEVER THE INPUT: true; the input reads as it did. -/
def natGcdsSpec : ChangeSpec := { name := "natGcds", fn := fun _ => fun
  | [d1, d2] => { results := [.lit (.bool true)], args := [d1, d2] }
  | _ => none }
def natGcdsRow : OpenClaim := { program := "ytaegkhdkhgemmaa", sum := "18b329ef21d8f6a1faced3ae080b4ff882bd754ac5c771ff0c084c9e2505dd6f", func := "clavecin/clavecinlaw01.NatGcds", spec := "natGcds", inPlace := ["math/bits.Sub64", "math/bits.Add64"], recurses := true, named := ["math/bits.divideError", "math/bits.overflowError"], apart := false }
def NatGcdsSaid : Prop := natGcdsRow.holds Try.pinned (OpenSpec.ofChange natGcdsSpec)

/-- ITS FALSE NEIGHBOUR: 'it returns false'. Refute it at one input. -/
def natGcdsWrong : ChangeSpec := { name := "natGcds", fn := fun _ => fun
  | [d1, d2] => { results := [.lit (.bool false)], args := [d1, d2] }
  | _ => none }
def NatGcdsWrongFalsely : Prop := natGcdsRow.holds Try.pinned (OpenSpec.ofChange natGcdsWrong)

/-- 'clavecinlaw01.NatTexts': WHATEVER THE INPUT: true; the input reads as it did. -/
def natTextsSpec : ChangeSpec := { name := "natTexts", fn := fun _ => fun
  | [d1, d2] => { results := [.lit (.bool true)], args := [d1, d2] }
  | _ => none }
def natTextsRow : OpenClaim := { program := "ytaegkhdkhgemmaa", sum := "18b329ef21d8f6a1faced3ae080b4ff882bd754ac5c771ff0c084c9e2505dd6f", func := "clavecin/clavecinlaw01.NatTexts", spec := "natTexts", inPlace := ["math/bits.Add64", "math/bits.Sub64"], unfollowed := true, recurses := true, named := ["math/bits.divideError", "math/bits.overflowError"], apart := false }
def NatTextsSaid : Prop := natTextsRow.holds Try.pinned (OpenSpec.ofChange natTextsSpec)

/-- ITS FALSE NEIGHBOUR: 'it returns false'. Refute it at one input. -/
def natTextsWrong : ChangeSpec := { name := "natTexts", fn := fun _ => fun
  | [d1, d2] => { results := [.lit (.bool false)], args := [d1, d2] }
  | _ => none }
def NatTextsWrongFalsely : Prop := natTextsRow.holds Try.pinned (OpenSpec.ofChange natTextsWrong)

/-- 'clavecinlaw01.NatDigits': WHATEVER THE INPUT: true; the input reads as it did. -/
def natDigitsSpec : ChangeSpec := { name := "natDigits", fn := fun _ => fun
  | [d1, d2, d3] => { results := [.lit (.bool true)], args := [d1, d2, d3] }
  | _ => none }
def natDigitsRow : OpenClaim := { program := "ytaegkhdkhgemmaa", sum := "18b329ef21d8f6a1faced3ae080b4ff882bd754ac5c771ff0c084c9e2505dd6f", func := "clavecin/clavecinlaw01.NatDigits", spec := "natDigits", inPlace := ["math/bits.Add64", "math/bits.Sub64"], unfollowed := true, recurses := true, named := ["math/bits.divideError", "math/bits.overflowError"], apart := false }
def NatDigitsSaid : Prop := natDigitsRow.holds Try.pinned (OpenSpec.ofChange natDigitsSpec)

/-- ITS FALSE NEIGHBOUR: 'it returns false'. Refute it at one input. -/
def natDigitsWrong : ChangeSpec := { name := "natDigits", fn := fun _ => fun
  | [d1, d2, d3] => { results := [.lit (.bool false)], args := [d1, d2, d3] }
  | _ => none }
def NatDigitsWrongFalsely : Prop := natDigitsRow.holds Try.pinned (OpenSpec.ofChange natDigitsWrong)

/-- 'clavecinlaw01.NatFits': WHATEVER THE INPUT: true; the input reads as it did. -/
def natFitsSpec : ChangeSpec := { name := "natFits", fn := fun _ => fun
  | [d1, d2] => { results := [.lit (.bool true)], args := [d1, d2] }
  | _ => none }
def natFitsRow : OpenClaim := { program := "ytaegkhdkhgemmaa", sum := "18b329ef21d8f6a1faced3ae080b4ff882bd754ac5c771ff0c084c9e2505dd6f", func := "clavecin/clavecinlaw01.NatFits", spec := "natFits", inPlace := ["math/bits.Add64", "math/bits.Sub64"], recurses := true, named := ["math/bits.divideError", "math/bits.overflowError"], apart := false }
def NatFitsSaid : Prop := natFitsRow.holds Try.pinned (OpenSpec.ofChange natFitsSpec)

/-- ITS FALSE NEIGHBOUR: 'it returns false'. Refute it at one input. -/
def natFitsWrong : ChangeSpec := { name := "natFits", fn := fun _ => fun
  | [d1, d2] => { results := [.lit (.bool false)], args := [d1, d2] }
  | _ => none }
def NatFitsWrongFalsely : Prop := natFitsRow.holds Try.pinned (OpenSpec.ofChange natFitsWrong)

/-- 'clavecinlaw01.NatRing': WHATEVER THE INPUT: true; the input reads as it did. -/
def natRingSpec : ChangeSpec := { name := "natRing", fn := fun _ => fun
  | [d1, d2, d3] => { results := [.lit (.bool true)], args := [d1, d2, d3] }
  | _ => none }
def natRingRow : OpenClaim := { program := "ytaegkhdkhgemmaa", sum := "18b329ef21d8f6a1faced3ae080b4ff882bd754ac5c771ff0c084c9e2505dd6f", func := "clavecin/clavecinlaw01.NatRing", spec := "natRing", inPlace := ["math/bits.Add64", "math/bits.Sub64"], recurses := true, named := ["math/bits.divideError", "math/bits.overflowError"], apart := false }
def NatRingSaid : Prop := natRingRow.holds Try.pinned (OpenSpec.ofChange natRingSpec)

/-- ITS FALSE NEIGHBOUR: 'it returns false'. Refute it at one input. -/
def natRingWrong : ChangeSpec := { name := "natRing", fn := fun _ => fun
  | [d1, d2, d3] => { results := [.lit (.bool false)], args := [d1, d2, d3] }
  | _ => none }
def NatRingWrongFalsely : Prop := natRingRow.holds Try.pinned (OpenSpec.ofChange natRingWrong)

/-- 'clavecinlaw01.NatSquares': WHATEVER THE INPUT: true; the input reads as it did. -/
def natSquaresSpec : ChangeSpec := { name := "natSquares", fn := fun _ => fun
  | [d1, d2] => { results := [.lit (.bool true)], args := [d1, d2] }
  | _ => none }
def natSquaresRow : OpenClaim := { program := "ytaegkhdkhgemmaa", sum := "18b329ef21d8f6a1faced3ae080b4ff882bd754ac5c771ff0c084c9e2505dd6f", func := "clavecin/clavecinlaw01.NatSquares", spec := "natSquares", inPlace := ["math/bits.Add64", "math/bits.Sub64"], recurses := true, named := ["math/bits.divideError", "math/bits.overflowError"], apart := false }
def NatSquaresSaid : Prop := natSquaresRow.holds Try.pinned (OpenSpec.ofChange natSquaresSpec)

/-- ITS FALSE NEIGHBOUR: 'it returns false'. Refute it at one input. -/
def natSquaresWrong : ChangeSpec := { name := "natSquares", fn := fun _ => fun
  | [d1, d2] => { results := [.lit (.bool false)], args := [d1, d2] }
  | _ => none }
def NatSquaresWrongFalsely : Prop := natSquaresRow.holds Try.pinned (OpenSpec.ofChange natSquaresWrong)

/-- 'clavecinlaw01.NatQuotient': WHATEVER THE INPUT: true; the input reads as it did. -/
def natQuotientSpec : ChangeSpec := { name := "natQuotient", fn := fun _ => fun
  | [d1, d2] => { results := [.lit (.bool true)], args := [d1, d2] }
  | _ => none }
def natQuotientRow : OpenClaim := { program := "ytaegkhdkhgemmaa", sum := "18b329ef21d8f6a1faced3ae080b4ff882bd754ac5c771ff0c084c9e2505dd6f", func := "clavecin/clavecinlaw01.NatQuotient", spec := "natQuotient", inPlace := ["math/bits.Add64", "math/bits.Sub64"], recurses := true, named := ["math/bits.divideError", "math/bits.overflowError"], apart := false }
def NatQuotientSaid : Prop := natQuotientRow.holds Try.pinned (OpenSpec.ofChange natQuotientSpec)

/-- ITS FALSE NEIGHBOUR: 'it returns false'. Refute it at one input. -/
def natQuotientWrong : ChangeSpec := { name := "natQuotient", fn := fun _ => fun
  | [d1, d2] => { results := [.lit (.bool false)], args := [d1, d2] }
  | _ => none }
def NatQuotientWrongFalsely : Prop := natQuotientRow.holds Try.pinned (OpenSpec.ofChange natQuotientWrong)

/-- 'clavecinlaw01.NatQuotientOf': WHATEVER THE INPUT: true; the input reads as it did. -/
def natQuotientOfSpec : ChangeSpec := { name := "natQuotientOf", fn := fun _ => fun
  | [d1, d2, d3] => { results := [.lit (.bool true)], args := [d1, d2, d3] }
  | _ => none }
def natQuotientOfRow : OpenClaim := { program := "ytaegkhdkhgemmaa", sum := "18b329ef21d8f6a1faced3ae080b4ff882bd754ac5c771ff0c084c9e2505dd6f", func := "clavecin/clavecinlaw01.NatQuotientOf", spec := "natQuotientOf", inPlace := ["math/bits.Add64", "math/bits.Sub64"], recurses := true, named := ["math/bits.divideError", "math/bits.overflowError"], apart := false }
def NatQuotientOfSaid : Prop := natQuotientOfRow.holds Try.pinned (OpenSpec.ofChange natQuotientOfSpec)

/-- ITS FALSE NEIGHBOUR: 'it returns false'. Refute it at one input. -/
def natQuotientOfWrong : ChangeSpec := { name := "natQuotientOf", fn := fun _ => fun
  | [d1, d2, d3] => { results := [.lit (.bool false)], args := [d1, d2, d3] }
  | _ => none }
def NatQuotientOfWrongFalsely : Prop := natQuotientOfRow.holds Try.pinned (OpenSpec.ofChange natQuotientOfWrong)

/-- 'clavecinlaw01.NatBetween': WHATEVER THE INPUT: true; the input reads as it did. -/
def natBetweenSpec : ChangeSpec := { name := "natBetween", fn := fun _ => fun
  | [d1, d2] => { results := [.lit (.bool true)], args := [d1, d2] }
  | _ => none }
def natBetweenRow : OpenClaim := { program := "ytaegkhdkhgemmaa", sum := "18b329ef21d8f6a1faced3ae080b4ff882bd754ac5c771ff0c084c9e2505dd6f", func := "clavecin/clavecinlaw01.NatBetween", spec := "natBetween", inPlace := ["math/bits.Add64", "math/bits.Sub64"], recurses := true, named := ["math/bits.divideError", "math/bits.overflowError"], apart := false }
def NatBetweenSaid : Prop := natBetweenRow.holds Try.pinned (OpenSpec.ofChange natBetweenSpec)

/-- ITS FALSE NEIGHBOUR: 'it returns false'. Refute it at one input. -/
def natBetweenWrong : ChangeSpec := { name := "natBetween", fn := fun _ => fun
  | [d1, d2] => { results := [.lit (.bool false)], args := [d1, d2] }
  | _ => none }
def NatBetweenWrongFalsely : Prop := natBetweenRow.holds Try.pinned (OpenSpec.ofChange natBetweenWrong)

/-- 'clavecinlaw01.NatBack': WHATEVER THE INPUT: true; the input reads as it did. -/
def natBackSpec : ChangeSpec := { name := "natBack", fn := fun _ => fun
  | [d1, d2] => { results := [.lit (.bool true)], args := [d1, d2] }
  | _ => none }
def natBackRow : OpenClaim := { program := "ytaegkhdkhgemmaa", sum := "18b329ef21d8f6a1faced3ae080b4ff882bd754ac5c771ff0c084c9e2505dd6f", func := "clavecin/clavecinlaw01.NatBack", spec := "natBack", inPlace := ["math/bits.Add64", "math/bits.Sub64"], unfollowed := true, recurses := true, named := ["math/bits.divideError", "math/bits.overflowError"], apart := false }
def NatBackSaid : Prop := natBackRow.holds Try.pinned (OpenSpec.ofChange natBackSpec)

/-- ITS FALSE NEIGHBOUR: 'it returns false'. Refute it at one input. -/
def natBackWrong : ChangeSpec := { name := "natBack", fn := fun _ => fun
  | [d1, d2] => { results := [.lit (.bool false)], args := [d1, d2] }
  | _ => none }
def NatBackWrongFalsely : Prop := natBackRow.holds Try.pinned (OpenSpec.ofChange natBackWrong)

/-- 'clavecinlaw01.NatCommon': WHATEVER THE INPUT: true; the input reads as it did. -/
def natCommonSpec : ChangeSpec := { name := "natCommon", fn := fun _ => fun
  | [d1, d2, d3] => { results := [.lit (.bool true)], args := [d1, d2, d3] }
  | _ => none }
def natCommonRow : OpenClaim := { program := "ytaegkhdkhgemmaa", sum := "18b329ef21d8f6a1faced3ae080b4ff882bd754ac5c771ff0c084c9e2505dd6f", func := "clavecin/clavecinlaw01.NatCommon", spec := "natCommon", inPlace := ["math/bits.Add64", "math/bits.Sub64"], recurses := true, named := ["math/bits.divideError", "math/bits.overflowError"], apart := false }
def NatCommonSaid : Prop := natCommonRow.holds Try.pinned (OpenSpec.ofChange natCommonSpec)

/-- ITS FALSE NEIGHBOUR: 'it returns false'. Refute it at one input. -/
def natCommonWrong : ChangeSpec := { name := "natCommon", fn := fun _ => fun
  | [d1, d2, d3] => { results := [.lit (.bool false)], args := [d1, d2, d3] }
  | _ => none }
def NatCommonWrongFalsely : Prop := natCommonRow.holds Try.pinned (OpenSpec.ofChange natCommonWrong)

/-- 'clavecinlaw01.NatWeighted': WHATEVER THE INPUT: true; the input reads as it did. -/
def natWeightedSpec : ChangeSpec := { name := "natWeighted", fn := fun _ => fun
  | [d1, d2] => { results := [.lit (.bool true)], args := [d1, d2] }
  | _ => none }
def natWeightedRow : OpenClaim := { program := "ytaegkhdkhgemmaa", sum := "18b329ef21d8f6a1faced3ae080b4ff882bd754ac5c771ff0c084c9e2505dd6f", func := "clavecin/clavecinlaw01.NatWeighted", spec := "natWeighted", inPlace := ["math/bits.Add64", "math/bits.Sub64"], unfollowed := true, recurses := true, named := ["math/bits.divideError", "math/bits.overflowError"], apart := false }
def NatWeightedSaid : Prop := natWeightedRow.holds Try.pinned (OpenSpec.ofChange natWeightedSpec)

/-- ITS FALSE NEIGHBOUR: 'it returns false'. Refute it at one input. -/
def natWeightedWrong : ChangeSpec := { name := "natWeighted", fn := fun _ => fun
  | [d1, d2] => { results := [.lit (.bool false)], args := [d1, d2] }
  | _ => none }
def NatWeightedWrongFalsely : Prop := natWeightedRow.holds Try.pinned (OpenSpec.ofChange natWeightedWrong)

/-- 'clavecinlaw01.NatExponents': WHATEVER THE INPUT: true; the input reads as it did. -/
def natExponentsSpec : ChangeSpec := { name := "natExponents", fn := fun _ => fun
  | [d1, d2, d3] => { results := [.lit (.bool true)], args := [d1, d2, d3] }
  | _ => none }
def natExponentsRow : OpenClaim := { program := "ytaegkhdkhgemmaa", sum := "18b329ef21d8f6a1faced3ae080b4ff882bd754ac5c771ff0c084c9e2505dd6f", func := "clavecin/clavecinlaw01.NatExponents", spec := "natExponents", inPlace := ["math/bits.Add64", "math/bits.Sub64"], recurses := true, named := ["math/bits.divideError", "math/bits.overflowError"], apart := false }
def NatExponentsSaid : Prop := natExponentsRow.holds Try.pinned (OpenSpec.ofChange natExponentsSpec)

/-- ITS FALSE NEIGHBOUR: 'it returns false'. Refute it at one input. -/
def natExponentsWrong : ChangeSpec := { name := "natExponents", fn := fun _ => fun
  | [d1, d2, d3] => { results := [.lit (.bool false)], args := [d1, d2, d3] }
  | _ => none }
def NatExponentsWrongFalsely : Prop := natExponentsRow.holds Try.pinned (OpenSpec.ofChange natExponentsWrong)

/-- 'clavecinlaw01.NatOwn': WHATEVER THE INPUT: true; the input reads as it did. -/
def natOwnSpec : ChangeSpec := { name := "natOwn", fn := fun _ => fun
  | [d1, d2, d3] => { results := [.lit (.bool true)], args := [d1, d2, d3] }
  | _ => none }
def natOwnRow : OpenClaim := { program := "ytaegkhdkhgemmaa", sum := "18b329ef21d8f6a1faced3ae080b4ff882bd754ac5c771ff0c084c9e2505dd6f", func := "clavecin/clavecinlaw01.NatOwn", spec := "natOwn", inPlace := ["math/bits.Add64", "math/bits.Sub64"], recurses := true, named := ["math/bits.divideError", "math/bits.overflowError"], apart := false }
def NatOwnSaid : Prop := natOwnRow.holds Try.pinned (OpenSpec.ofChange natOwnSpec)

/-- ITS FALSE NEIGHBOUR: 'it returns false'. Refute it at one input. -/
def natOwnWrong : ChangeSpec := { name := "natOwn", fn := fun _ => fun
  | [d1, d2, d3] => { results := [.lit (.bool false)], args := [d1, d2, d3] }
  | _ => none }
def NatOwnWrongFalsely : Prop := natOwnRow.holds Try.pinned (OpenSpec.ofChange natOwnWrong)

/-- 'clavecinlaw01.NatLimits': WHATEVER THE INPUT: true; the input reads as it did. -/
def natLimitsSpec : ChangeSpec := { name := "natLimits", fn := fun _ => fun
  | [d] => { results := [.lit (.bool true)], args := [d] }
  | _ => none }
def natLimitsRow : OpenClaim := { program := "ytaegkhdkhgemmaa", sum := "18b329ef21d8f6a1faced3ae080b4ff882bd754ac5c771ff0c084c9e2505dd6f", func := "clavecin/clavecinlaw01.NatLimits", spec := "natLimits", inPlace := ["math/bits.Add64", "math/bits.Sub64"], unfollowed := true, recurses := true, named := ["math/bits.divideError", "math/bits.overflowError"], apart := false }
def NatLimitsSaid : Prop := natLimitsRow.holds Try.pinned (OpenSpec.ofChange natLimitsSpec)

/-- ITS FALSE NEIGHBOUR: 'it returns false'. Refute it at one input. -/
def natLimitsWrong : ChangeSpec := { name := "natLimits", fn := fun _ => fun
  | [d] => { results := [.lit (.bool false)], args := [d] }
  | _ => none }
def NatLimitsWrongFalsely : Prop := natLimitsRow.holds Try.pinned (OpenSpec.ofChange natLimitsWrong)

/- THE SECOND FORM. 'bulk': how many values and letters a reading holds, each counted each time it is reached (what is shared counts as often as it is met; a slice's spare places count too). A statement '..UptoSaid' is the law's where the arguments, and the package variables that the reading takes, are together of bulk at most 1048576: NARROWER than '..Said'. Prove '..Said' where nothing that the law and all that it calls make is longer than what came in: it says more and counts as full. Else prove '..UptoSaid'. A law counts once. -/
mutual
def uptoBulk {H : Type} : DataW H → Nat
  | .lit (.string bytes) => bytes.length + 1
  | .lit _ => 1
  | .nil => 1
  | .ptr d => uptoBulk d + 1
  | .slice elems spare => uptoBulkAll elems + uptoBulkAll spare + 1
  | .agg parts => uptoBulkAll parts + 1
  | .iface _ d => uptoBulk d + 1
  | .map entries => uptoBulkEntries entries + 1
  | .held _ => 1
def uptoBulkAll {H : Type} : List (DataW H) → Nat
  | [] => 0
  | d :: r => uptoBulk d + uptoBulkAll r
def uptoBulkEntries {H : Type} : List (Lit × DataW H) → Nat
  | [] => 0
  | x :: r => uptoBulkEntry x + uptoBulkEntries r
def uptoBulkEntry {H : Type} : Lit × DataW H → Nat
  | (.string bytes, d) => bytes.length + uptoBulk d + 1
  | (_, d) => uptoBulk d + 1
 end
def uptoSmall : (H : Type) → List (DataW H) → Bool := fun _ ds => decide (uptoBulkAll ds ≤ 1048576)
def OpenSpec.upto (s : _root_.Go.ChangeSpec) : _root_.Go.OpenSpec := { _root_.Go.OpenSpec.ofChange s with cond := some uptoSmall }

/-- 'clavecinlaw01.NatChecks', WHERE WHAT IT READS IS OF BULK AT MOST 1048576: true; the input reads as it did. -/
def natChecksUptoRow : OpenClaim := { program := "ytaegkhdkhgemmaa", sum := "18b329ef21d8f6a1faced3ae080b4ff882bd754ac5c771ff0c084c9e2505dd6f", func := "clavecin/clavecinlaw01.NatChecks", spec := "natChecks", inPlace := ["math/bits.Add64", "math/bits.Sub64"], recurses := true, named := ["math/bits.divideError", "math/bits.overflowError"], apart := false, narrowed := true }
def NatChecksUptoSaid : Prop := natChecksUptoRow.holds Try.pinned (OpenSpec.upto natChecksSpec)

/-- 'clavecinlaw01.NatAdds', WHERE WHAT IT READS IS OF BULK AT MOST 1048576: true; the input reads as it did. -/
def natAddsUptoRow : OpenClaim := { program := "ytaegkhdkhgemmaa", sum := "18b329ef21d8f6a1faced3ae080b4ff882bd754ac5c771ff0c084c9e2505dd6f", func := "clavecin/clavecinlaw01.NatAdds", spec := "natAdds", inPlace := ["math/bits.Add64", "math/bits.Sub64"], recurses := true, named := ["math/bits.divideError", "math/bits.overflowError"], apart := false, narrowed := true }
def NatAddsUptoSaid : Prop := natAddsUptoRow.holds Try.pinned (OpenSpec.upto natAddsSpec)

/-- 'clavecinlaw01.NatMuls', WHERE WHAT IT READS IS OF BULK AT MOST 1048576: true; the input reads as it did. -/
def natMulsUptoRow : OpenClaim := { program := "ytaegkhdkhgemmaa", sum := "18b329ef21d8f6a1faced3ae080b4ff882bd754ac5c771ff0c084c9e2505dd6f", func := "clavecin/clavecinlaw01.NatMuls", spec := "natMuls", inPlace := ["math/bits.Add64", "math/bits.Sub64"], recurses := true, named := ["math/bits.divideError", "math/bits.overflowError"], apart := false, narrowed := true }
def NatMulsUptoSaid : Prop := natMulsUptoRow.holds Try.pinned (OpenSpec.upto natMulsSpec)

/-- 'clavecinlaw01.NatDivides', WHERE WHAT IT READS IS OF BULK AT MOST 1048576: true; the input reads as it did. -/
def natDividesUptoRow : OpenClaim := { program := "ytaegkhdkhgemmaa", sum := "18b329ef21d8f6a1faced3ae080b4ff882bd754ac5c771ff0c084c9e2505dd6f", func := "clavecin/clavecinlaw01.NatDivides", spec := "natDivides", inPlace := ["math/bits.Sub64", "math/bits.Add64"], recurses := true, named := ["math/bits.divideError", "math/bits.overflowError"], apart := false, narrowed := true }
def NatDividesUptoSaid : Prop := natDividesUptoRow.holds Try.pinned (OpenSpec.upto natDividesSpec)

/-- 'clavecinlaw01.NatShifts', WHERE WHAT IT READS IS OF BULK AT MOST 1048576: true; the input reads as it did. -/
def natShiftsUptoRow : OpenClaim := { program := "ytaegkhdkhgemmaa", sum := "18b329ef21d8f6a1faced3ae080b4ff882bd754ac5c771ff0c084c9e2505dd6f", func := "clavecin/clavecinlaw01.NatShifts", spec := "natShifts", inPlace := ["math/bits.Add64", "math/bits.Sub64"], recurses := true, named := ["math/bits.divideError", "math/bits.overflowError"], apart := false, narrowed := true }
def NatShiftsUptoSaid : Prop := natShiftsUptoRow.holds Try.pinned (OpenSpec.upto natShiftsSpec)

/-- 'clavecinlaw01.NatPowers', WHERE WHAT IT READS IS OF BULK AT MOST 1048576: true; the input reads as it did. -/
def natPowersUptoRow : OpenClaim := { program := "ytaegkhdkhgemmaa", sum := "18b329ef21d8f6a1faced3ae080b4ff882bd754ac5c771ff0c084c9e2505dd6f", func := "clavecin/clavecinlaw01.NatPowers", spec := "natPowers", inPlace := ["math/bits.Add64", "math/bits.Sub64"], recurses := true, named := ["math/bits.divideError", "math/bits.overflowError"], apart := false, narrowed := true }
def NatPowersUptoSaid : Prop := natPowersUptoRow.holds Try.pinned (OpenSpec.upto natPowersSpec)

/-- 'clavecinlaw01.NatPowMods', WHERE WHAT IT READS IS OF BULK AT MOST 1048576: true; the input reads as it did. -/
def natPowModsUptoRow : OpenClaim := { program := "ytaegkhdkhgemmaa", sum := "18b329ef21d8f6a1faced3ae080b4ff882bd754ac5c771ff0c084c9e2505dd6f", func := "clavecin/clavecinlaw01.NatPowMods", spec := "natPowMods", inPlace := ["math/bits.Sub64", "math/bits.Add64"], recurses := true, named := ["math/bits.divideError", "math/bits.overflowError"], apart := false, narrowed := true }
def NatPowModsUptoSaid : Prop := natPowModsUptoRow.holds Try.pinned (OpenSpec.upto natPowModsSpec)

/-- 'clavecinlaw01.NatRoots', WHERE WHAT IT READS IS OF BULK AT MOST 1048576: true; the input reads as it did. -/
def natRootsUptoRow : OpenClaim := { program := "ytaegkhdkhgemmaa", sum := "18b329ef21d8f6a1faced3ae080b4ff882bd754ac5c771ff0c084c9e2505dd6f", func := "clavecin/clavecinlaw01.NatRoots", spec := "natRoots", inPlace := ["math/bits.Add64", "math/bits.Sub64"], recurses := true, named := ["math/bits.divideError", "math/bits.overflowError"], apart := false, narrowed := true }
def NatRootsUptoSaid : Prop := natRootsUptoRow.holds Try.pinned (OpenSpec.upto natRootsSpec)

/-- 'clavecinlaw01.NatGcds', WHERE WHAT IT READS IS OF BULK AT MOST 1048576: true; the input reads as it did. -/
def natGcdsUptoRow : OpenClaim := { program := "ytaegkhdkhgemmaa", sum := "18b329ef21d8f6a1faced3ae080b4ff882bd754ac5c771ff0c084c9e2505dd6f", func := "clavecin/clavecinlaw01.NatGcds", spec := "natGcds", inPlace := ["math/bits.Sub64", "math/bits.Add64"], recurses := true, named := ["math/bits.divideError", "math/bits.overflowError"], apart := false, narrowed := true }
def NatGcdsUptoSaid : Prop := natGcdsUptoRow.holds Try.pinned (OpenSpec.upto natGcdsSpec)

/-- 'clavecinlaw01.NatTexts', WHERE WHAT IT READS IS OF BULK AT MOST 1048576: true; the input reads as it did. -/
def natTextsUptoRow : OpenClaim := { program := "ytaegkhdkhgemmaa", sum := "18b329ef21d8f6a1faced3ae080b4ff882bd754ac5c771ff0c084c9e2505dd6f", func := "clavecin/clavecinlaw01.NatTexts", spec := "natTexts", inPlace := ["math/bits.Add64", "math/bits.Sub64"], unfollowed := true, recurses := true, named := ["math/bits.divideError", "math/bits.overflowError"], apart := false, narrowed := true }
def NatTextsUptoSaid : Prop := natTextsUptoRow.holds Try.pinned (OpenSpec.upto natTextsSpec)

/-- 'clavecinlaw01.NatDigits', WHERE WHAT IT READS IS OF BULK AT MOST 1048576: true; the input reads as it did. -/
def natDigitsUptoRow : OpenClaim := { program := "ytaegkhdkhgemmaa", sum := "18b329ef21d8f6a1faced3ae080b4ff882bd754ac5c771ff0c084c9e2505dd6f", func := "clavecin/clavecinlaw01.NatDigits", spec := "natDigits", inPlace := ["math/bits.Add64", "math/bits.Sub64"], unfollowed := true, recurses := true, named := ["math/bits.divideError", "math/bits.overflowError"], apart := false, narrowed := true }
def NatDigitsUptoSaid : Prop := natDigitsUptoRow.holds Try.pinned (OpenSpec.upto natDigitsSpec)

/-- 'clavecinlaw01.NatFits', WHERE WHAT IT READS IS OF BULK AT MOST 1048576: true; the input reads as it did. -/
def natFitsUptoRow : OpenClaim := { program := "ytaegkhdkhgemmaa", sum := "18b329ef21d8f6a1faced3ae080b4ff882bd754ac5c771ff0c084c9e2505dd6f", func := "clavecin/clavecinlaw01.NatFits", spec := "natFits", inPlace := ["math/bits.Add64", "math/bits.Sub64"], recurses := true, named := ["math/bits.divideError", "math/bits.overflowError"], apart := false, narrowed := true }
def NatFitsUptoSaid : Prop := natFitsUptoRow.holds Try.pinned (OpenSpec.upto natFitsSpec)

/-- 'clavecinlaw01.NatRing', WHERE WHAT IT READS IS OF BULK AT MOST 1048576: true; the input reads as it did. -/
def natRingUptoRow : OpenClaim := { program := "ytaegkhdkhgemmaa", sum := "18b329ef21d8f6a1faced3ae080b4ff882bd754ac5c771ff0c084c9e2505dd6f", func := "clavecin/clavecinlaw01.NatRing", spec := "natRing", inPlace := ["math/bits.Add64", "math/bits.Sub64"], recurses := true, named := ["math/bits.divideError", "math/bits.overflowError"], apart := false, narrowed := true }
def NatRingUptoSaid : Prop := natRingUptoRow.holds Try.pinned (OpenSpec.upto natRingSpec)

/-- 'clavecinlaw01.NatSquares', WHERE WHAT IT READS IS OF BULK AT MOST 1048576: true; the input reads as it did. -/
def natSquaresUptoRow : OpenClaim := { program := "ytaegkhdkhgemmaa", sum := "18b329ef21d8f6a1faced3ae080b4ff882bd754ac5c771ff0c084c9e2505dd6f", func := "clavecin/clavecinlaw01.NatSquares", spec := "natSquares", inPlace := ["math/bits.Add64", "math/bits.Sub64"], recurses := true, named := ["math/bits.divideError", "math/bits.overflowError"], apart := false, narrowed := true }
def NatSquaresUptoSaid : Prop := natSquaresUptoRow.holds Try.pinned (OpenSpec.upto natSquaresSpec)

/-- 'clavecinlaw01.NatQuotient', WHERE WHAT IT READS IS OF BULK AT MOST 1048576: true; the input reads as it did. -/
def natQuotientUptoRow : OpenClaim := { program := "ytaegkhdkhgemmaa", sum := "18b329ef21d8f6a1faced3ae080b4ff882bd754ac5c771ff0c084c9e2505dd6f", func := "clavecin/clavecinlaw01.NatQuotient", spec := "natQuotient", inPlace := ["math/bits.Add64", "math/bits.Sub64"], recurses := true, named := ["math/bits.divideError", "math/bits.overflowError"], apart := false, narrowed := true }
def NatQuotientUptoSaid : Prop := natQuotientUptoRow.holds Try.pinned (OpenSpec.upto natQuotientSpec)

/-- 'clavecinlaw01.NatQuotientOf', WHERE WHAT IT READS IS OF BULK AT MOST 1048576: true; the input reads as it did. -/
def natQuotientOfUptoRow : OpenClaim := { program := "ytaegkhdkhgemmaa", sum := "18b329ef21d8f6a1faced3ae080b4ff882bd754ac5c771ff0c084c9e2505dd6f", func := "clavecin/clavecinlaw01.NatQuotientOf", spec := "natQuotientOf", inPlace := ["math/bits.Add64", "math/bits.Sub64"], recurses := true, named := ["math/bits.divideError", "math/bits.overflowError"], apart := false, narrowed := true }
def NatQuotientOfUptoSaid : Prop := natQuotientOfUptoRow.holds Try.pinned (OpenSpec.upto natQuotientOfSpec)

/-- 'clavecinlaw01.NatBetween', WHERE WHAT IT READS IS OF BULK AT MOST 1048576: true; the input reads as it did. -/
def natBetweenUptoRow : OpenClaim := { program := "ytaegkhdkhgemmaa", sum := "18b329ef21d8f6a1faced3ae080b4ff882bd754ac5c771ff0c084c9e2505dd6f", func := "clavecin/clavecinlaw01.NatBetween", spec := "natBetween", inPlace := ["math/bits.Add64", "math/bits.Sub64"], recurses := true, named := ["math/bits.divideError", "math/bits.overflowError"], apart := false, narrowed := true }
def NatBetweenUptoSaid : Prop := natBetweenUptoRow.holds Try.pinned (OpenSpec.upto natBetweenSpec)

/-- 'clavecinlaw01.NatBack', WHERE WHAT IT READS IS OF BULK AT MOST 1048576: true; the input reads as it did. -/
def natBackUptoRow : OpenClaim := { program := "ytaegkhdkhgemmaa", sum := "18b329ef21d8f6a1faced3ae080b4ff882bd754ac5c771ff0c084c9e2505dd6f", func := "clavecin/clavecinlaw01.NatBack", spec := "natBack", inPlace := ["math/bits.Add64", "math/bits.Sub64"], unfollowed := true, recurses := true, named := ["math/bits.divideError", "math/bits.overflowError"], apart := false, narrowed := true }
def NatBackUptoSaid : Prop := natBackUptoRow.holds Try.pinned (OpenSpec.upto natBackSpec)

/-- 'clavecinlaw01.NatCommon', WHERE WHAT IT READS IS OF BULK AT MOST 1048576: true; the input reads as it did. -/
def natCommonUptoRow : OpenClaim := { program := "ytaegkhdkhgemmaa", sum := "18b329ef21d8f6a1faced3ae080b4ff882bd754ac5c771ff0c084c9e2505dd6f", func := "clavecin/clavecinlaw01.NatCommon", spec := "natCommon", inPlace := ["math/bits.Add64", "math/bits.Sub64"], recurses := true, named := ["math/bits.divideError", "math/bits.overflowError"], apart := false, narrowed := true }
def NatCommonUptoSaid : Prop := natCommonUptoRow.holds Try.pinned (OpenSpec.upto natCommonSpec)

/-- 'clavecinlaw01.NatWeighted', WHERE WHAT IT READS IS OF BULK AT MOST 1048576: true; the input reads as it did. -/
def natWeightedUptoRow : OpenClaim := { program := "ytaegkhdkhgemmaa", sum := "18b329ef21d8f6a1faced3ae080b4ff882bd754ac5c771ff0c084c9e2505dd6f", func := "clavecin/clavecinlaw01.NatWeighted", spec := "natWeighted", inPlace := ["math/bits.Add64", "math/bits.Sub64"], unfollowed := true, recurses := true, named := ["math/bits.divideError", "math/bits.overflowError"], apart := false, narrowed := true }
def NatWeightedUptoSaid : Prop := natWeightedUptoRow.holds Try.pinned (OpenSpec.upto natWeightedSpec)

/-- 'clavecinlaw01.NatExponents', WHERE WHAT IT READS IS OF BULK AT MOST 1048576: true; the input reads as it did. -/
def natExponentsUptoRow : OpenClaim := { program := "ytaegkhdkhgemmaa", sum := "18b329ef21d8f6a1faced3ae080b4ff882bd754ac5c771ff0c084c9e2505dd6f", func := "clavecin/clavecinlaw01.NatExponents", spec := "natExponents", inPlace := ["math/bits.Add64", "math/bits.Sub64"], recurses := true, named := ["math/bits.divideError", "math/bits.overflowError"], apart := false, narrowed := true }
def NatExponentsUptoSaid : Prop := natExponentsUptoRow.holds Try.pinned (OpenSpec.upto natExponentsSpec)

/-- 'clavecinlaw01.NatOwn', WHERE WHAT IT READS IS OF BULK AT MOST 1048576: true; the input reads as it did. -/
def natOwnUptoRow : OpenClaim := { program := "ytaegkhdkhgemmaa", sum := "18b329ef21d8f6a1faced3ae080b4ff882bd754ac5c771ff0c084c9e2505dd6f", func := "clavecin/clavecinlaw01.NatOwn", spec := "natOwn", inPlace := ["math/bits.Add64", "math/bits.Sub64"], recurses := true, named := ["math/bits.divideError", "math/bits.overflowError"], apart := false, narrowed := true }
def NatOwnUptoSaid : Prop := natOwnUptoRow.holds Try.pinned (OpenSpec.upto natOwnSpec)

/-- 'clavecinlaw01.NatLimits', WHERE WHAT IT READS IS OF BULK AT MOST 1048576: true; the input reads as it did. -/
def natLimitsUptoRow : OpenClaim := { program := "ytaegkhdkhgemmaa", sum := "18b329ef21d8f6a1faced3ae080b4ff882bd754ac5c771ff0c084c9e2505dd6f", func := "clavecin/clavecinlaw01.NatLimits", spec := "natLimits", inPlace := ["math/bits.Add64", "math/bits.Sub64"], unfollowed := true, recurses := true, named := ["math/bits.divideError", "math/bits.overflowError"], apart := false, narrowed := true }
def NatLimitsUptoSaid : Prop := natLimitsUptoRow.holds Try.pinned (OpenSpec.upto natLimitsSpec)

end Rows
end Go.Proofs.Ytaegkhdkhgemmaa
