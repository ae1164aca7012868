/-
  No cell of these rows narrows 'for every input' (looked for: loops, veiled, ifaces, maps, wideKeys, modest, calm, conditions, laid).
  DERIVED. THE GIVEN ROWS OF THIS SEAT. 8 by the template 'for every input the law returns true; each argument reads behind the call as it read before'; 0 by the template 'total and deterministic' (their statements: YtcdchieielpahaaTotals.lean).
  GIVEN WITH THE SEED: the statements are not yours to turn. If you find one false, say at which input.
  Laid BY PROGRAM, IN A SANDBOX (cutbox-rows.mjs): the forced cells as the released guide's own fill.sh prints them over the translation 4321540b6eb6973d… (all of the seat's roots in one cut). By AI agents, Wed Nov 11 2026. No macro, syntax, notation, axiom, sorry.
-/
import Derived.Test.YtcdchieielpahaaChecked
import GoSem.Claim
import GoSem.ClaimJoined
import GoSem.ClaimMapViews
import Derived.JoinedTies
import Derived.KernelRfl
namespace Go.Proofs.Ytcdchieielpahaa
/- THE CELL 'sum', in the pinned program and in every row, IS THE sha256 OF THE DUMP (.gsa) THAT YtcdchieielpahaaProg.lean LOADS. Nothing in Lean hashes anything: it is a label: what it is worth is what the hold of that sum in a sandbox is worth. -/
noncomputable def Try.pinned : Pinned := { name := "ytcdchieielpahaa", sum := "4321540b6eb6973ddfad54484a56a7eb2007b1038c0ab97db14c42f5cb889180", checked := Try.checked }
namespace Rows
def none {H : Type} : Left H := { results := [], args := [] }

/-- 'laws.FnExactPointsOf': WHATEVER THE INPUT: true; the input reads as it did. -/
def fnExactPointsOfSpec : ChangeSpec := { name := "fnExactPointsOf", fn := fun _ => fun
  | [d1, d2, d3] => { results := [.lit (.bool true)], args := [d1, d2, d3] }
  | _ => none }
def fnExactPointsOfRow : OpenClaim := { program := "ytcdchieielpahaa", sum := "4321540b6eb6973ddfad54484a56a7eb2007b1038c0ab97db14c42f5cb889180", func := "loop.example/g03209/laws.FnExactPointsOf", spec := "fnExactPointsOf", recurses := true, leaving := true, apart := false }
def FnExactPointsOfSaid : Prop := fnExactPointsOfRow.holds Try.pinned (OpenSpec.ofChange fnExactPointsOfSpec)

/-- ITS FALSE NEIGHBOUR: 'it returns false'. Refute it at one input. -/
def fnExactPointsOfWrong : ChangeSpec := { name := "fnExactPointsOf", fn := fun _ => fun
  | [d1, d2, d3] => { results := [.lit (.bool false)], args := [d1, d2, d3] }
  | _ => none }
def FnExactPointsOfWrongFalsely : Prop := fnExactPointsOfRow.holds Try.pinned (OpenSpec.ofChange fnExactPointsOfWrong)

/-- 'laws.FnExactGapsOf': WHATEVER THE INPUT: true; the input reads as it did. -/
def fnExactGapsOfSpec : ChangeSpec := { name := "fnExactGapsOf", fn := fun _ => fun
  | [d1, d2, d3] => { results := [.lit (.bool true)], args := [d1, d2, d3] }
  | _ => none }
def fnExactGapsOfRow : OpenClaim := { program := "ytcdchieielpahaa", sum := "4321540b6eb6973ddfad54484a56a7eb2007b1038c0ab97db14c42f5cb889180", func := "loop.example/g03209/laws.FnExactGapsOf", spec := "fnExactGapsOf", recurses := true, leaving := true, apart := false }
def FnExactGapsOfSaid : Prop := fnExactGapsOfRow.holds Try.pinned (OpenSpec.ofChange fnExactGapsOfSpec)

/-- ITS FALSE NEIGHBOUR: 'it returns false'. Refute it at one input. -/
def fnExactGapsOfWrong : ChangeSpec := { name := "fnExactGapsOf", fn := fun _ => fun
  | [d1, d2, d3] => { results := [.lit (.bool false)], args := [d1, d2, d3] }
  | _ => none }
def FnExactGapsOfWrongFalsely : Prop := fnExactGapsOfRow.holds Try.pinned (OpenSpec.ofChange fnExactGapsOfWrong)

/-- 'laws.FnExactGapLengths': WHATEVER THE INPUT: true; the input reads as it did. -/
def fnExactGapLengthsSpec : ChangeSpec := { name := "fnExactGapLengths", fn := fun _ => fun
  | [d1, d2, d3] => { results := [.lit (.bool true)], args := [d1, d2, d3] }
  | _ => none }
def fnExactGapLengthsRow : OpenClaim := { program := "ytcdchieielpahaa", sum := "4321540b6eb6973ddfad54484a56a7eb2007b1038c0ab97db14c42f5cb889180", func := "loop.example/g03209/laws.FnExactGapLengths", spec := "fnExactGapLengths", recurses := true, leaving := true, apart := false }
def FnExactGapLengthsSaid : Prop := fnExactGapLengthsRow.holds Try.pinned (OpenSpec.ofChange fnExactGapLengthsSpec)

/-- ITS FALSE NEIGHBOUR: 'it returns false'. Refute it at one input. -/
def fnExactGapLengthsWrong : ChangeSpec := { name := "fnExactGapLengths", fn := fun _ => fun
  | [d1, d2, d3] => { results := [.lit (.bool false)], args := [d1, d2, d3] }
  | _ => none }
def FnExactGapLengthsWrongFalsely : Prop := fnExactGapLengthsRow.holds Try.pinned (OpenSpec.ofChange fnExactGapLengthsWrong)

/-- 'laws.FnExactNearestTo': WHATEVER THE INPUT: true; the input reads as it did. -/
def fnExactNearestToSpec : ChangeSpec := { name := "fnExactNearestTo", fn := fun _ => fun
  | [d1, d2, d3] => { results := [.lit (.bool true)], args := [d1, d2, d3] }
  | _ => none }
def fnExactNearestToRow : OpenClaim := { program := "ytcdchieielpahaa", sum := "4321540b6eb6973ddfad54484a56a7eb2007b1038c0ab97db14c42f5cb889180", func := "loop.example/g03209/laws.FnExactNearestTo", spec := "fnExactNearestTo", leaving := true, apart := false }
def FnExactNearestToSaid : Prop := fnExactNearestToRow.holds Try.pinned (OpenSpec.ofChange fnExactNearestToSpec)

/-- ITS FALSE NEIGHBOUR: 'it returns false'. Refute it at one input. -/
def fnExactNearestToWrong : ChangeSpec := { name := "fnExactNearestTo", fn := fun _ => fun
  | [d1, d2, d3] => { results := [.lit (.bool false)], args := [d1, d2, d3] }
  | _ => none }
def FnExactNearestToWrongFalsely : Prop := fnExactNearestToRow.holds Try.pinned (OpenSpec.ofChange fnExactNearestToWrong)

/-- 'laws.FnExactReturnTime': WHATEVER THE INPUT: true; the input reads as it did. -/
def fnExactReturnTimeSpec : ChangeSpec := { name := "fnExactReturnTime", fn := fun _ => fun
  | [d1, d2, d3, d4, d5] => { results := [.lit (.bool true)], args := [d1, d2, d3, d4, d5] }
  | _ => none }
def fnExactReturnTimeRow : OpenClaim := { program := "ytcdchieielpahaa", sum := "4321540b6eb6973ddfad54484a56a7eb2007b1038c0ab97db14c42f5cb889180", func := "loop.example/g03209/laws.FnExactReturnTime", spec := "fnExactReturnTime", apart := false }
def FnExactReturnTimeSaid : Prop := fnExactReturnTimeRow.holds Try.pinned (OpenSpec.ofChange fnExactReturnTimeSpec)

/-- ITS FALSE NEIGHBOUR: 'it returns false'. Refute it at one input. -/
def fnExactReturnTimeWrong : ChangeSpec := { name := "fnExactReturnTime", fn := fun _ => fun
  | [d1, d2, d3, d4, d5] => { results := [.lit (.bool false)], args := [d1, d2, d3, d4, d5] }
  | _ => none }
def FnExactReturnTimeWrongFalsely : Prop := fnExactReturnTimeRow.holds Try.pinned (OpenSpec.ofChange fnExactReturnTimeWrong)

/-- 'laws.FnExactReturnTimes': WHATEVER THE INPUT: true; the input reads as it did. -/
def fnExactReturnTimesSpec : ChangeSpec := { name := "fnExactReturnTimes", fn := fun _ => fun
  | [d1, d2, d3, d4] => { results := [.lit (.bool true)], args := [d1, d2, d3, d4] }
  | _ => none }
def fnExactReturnTimesRow : OpenClaim := { program := "ytcdchieielpahaa", sum := "4321540b6eb6973ddfad54484a56a7eb2007b1038c0ab97db14c42f5cb889180", func := "loop.example/g03209/laws.FnExactReturnTimes", spec := "fnExactReturnTimes", recurses := true, apart := false }
def FnExactReturnTimesSaid : Prop := fnExactReturnTimesRow.holds Try.pinned (OpenSpec.ofChange fnExactReturnTimesSpec)

/-- ITS FALSE NEIGHBOUR: 'it returns false'. Refute it at one input. -/
def fnExactReturnTimesWrong : ChangeSpec := { name := "fnExactReturnTimes", fn := fun _ => fun
  | [d1, d2, d3, d4] => { results := [.lit (.bool false)], args := [d1, d2, d3, d4] }
  | _ => none }
def FnExactReturnTimesWrongFalsely : Prop := fnExactReturnTimesRow.holds Try.pinned (OpenSpec.ofChange fnExactReturnTimesWrong)

/-- 'laws.FnExactCountIn': WHATEVER THE INPUT: true; the input reads as it did. -/
def fnExactCountInSpec : ChangeSpec := { name := "fnExactCountIn", fn := fun _ => fun
  | [d1, d2, d3, d4, d5] => { results := [.lit (.bool true)], args := [d1, d2, d3, d4, d5] }
  | _ => none }
def fnExactCountInRow : OpenClaim := { program := "ytcdchieielpahaa", sum := "4321540b6eb6973ddfad54484a56a7eb2007b1038c0ab97db14c42f5cb889180", func := "loop.example/g03209/laws.FnExactCountIn", spec := "fnExactCountIn", leaving := true, apart := false }
def FnExactCountInSaid : Prop := fnExactCountInRow.holds Try.pinned (OpenSpec.ofChange fnExactCountInSpec)

/-- ITS FALSE NEIGHBOUR: 'it returns false'. Refute it at one input. -/
def fnExactCountInWrong : ChangeSpec := { name := "fnExactCountIn", fn := fun _ => fun
  | [d1, d2, d3, d4, d5] => { results := [.lit (.bool false)], args := [d1, d2, d3, d4, d5] }
  | _ => none }
def FnExactCountInWrongFalsely : Prop := fnExactCountInRow.holds Try.pinned (OpenSpec.ofChange fnExactCountInWrong)

/-- 'laws.FnGaps': WHATEVER THE INPUT: true; the input reads as it did. -/
def fnGapsSpec : ChangeSpec := { name := "fnGaps", fn := fun _ => fun
  | [d] => { results := [.lit (.bool true)], args := [d] }
  | _ => none }
def fnGapsRow : OpenClaim := { program := "ytcdchieielpahaa", sum := "4321540b6eb6973ddfad54484a56a7eb2007b1038c0ab97db14c42f5cb889180", func := "loop.example/g03209/laws.FnGaps", spec := "fnGaps", recurses := true, leaving := true, apart := false }
def FnGapsSaid : Prop := fnGapsRow.holds Try.pinned (OpenSpec.ofChange fnGapsSpec)

/-- ITS FALSE NEIGHBOUR: 'it returns false'. Refute it at one input. -/
def fnGapsWrong : ChangeSpec := { name := "fnGaps", fn := fun _ => fun
  | [d] => { results := [.lit (.bool false)], args := [d] }
  | _ => none }
def FnGapsWrongFalsely : Prop := fnGapsRow.holds Try.pinned (OpenSpec.ofChange fnGapsWrong)

/- THE SECOND FORM. 'bulk': how many values and letters a reading holds, each counted each time it is reached (what is shared counts as often as it is met; a slice's spare places count too). A statement '..UptoSaid' is the law's where the arguments, and the package variables that the reading takes, are together of bulk at most 1048576: NARROWER than '..Said'. Prove '..Said' where nothing that the law and all that it calls make is longer than what came in: it says more and counts as full. Else prove '..UptoSaid'. A law counts once. -/
mutual
def uptoBulk {H : Type} : DataW H → Nat
  | .lit (.string bytes) => bytes.length + 1
  | .lit _ => 1
  | .nil => 1
  | .ptr d => uptoBulk d + 1
  | .slice elems spare => uptoBulkAll elems + uptoBulkAll spare + 1
  | .agg parts => uptoBulkAll parts + 1
  | .iface _ d => uptoBulk d + 1
  | .map entries => uptoBulkEntries entries + 1
  | .held _ => 1
def uptoBulkAll {H : Type} : List (DataW H) → Nat
  | [] => 0
  | d :: r => uptoBulk d + uptoBulkAll r
def uptoBulkEntries {H : Type} : List (Lit × DataW H) → Nat
  | [] => 0
  | x :: r => uptoBulkEntry x + uptoBulkEntries r
def uptoBulkEntry {H : Type} : Lit × DataW H → Nat
  | (.string bytes, d) => bytes.length + uptoBulk d + 1
  | (_, d) => uptoBulk d + 1
 end
def uptoSmall : (H : Type) → List (DataW H) → Bool := fun _ ds => decide (uptoBulkAll ds ≤ 1048576)
def OpenSpec.upto (s : _root_.Go.ChangeSpec) : _root_.Go.OpenSpec := { _root_.Go.OpenSpec.ofChange s with cond := some uptoSmall }

/-- 'laws.FnExactPointsOf', WHERE WHAT IT READS IS OF BULK AT MOST 1048576: true; the input reads as it did. -/
def fnExactPointsOfUptoRow : OpenClaim := { program := "ytcdchieielpahaa", sum := "4321540b6eb6973ddfad54484a56a7eb2007b1038c0ab97db14c42f5cb889180", func := "loop.example/g03209/laws.FnExactPointsOf", spec := "fnExactPointsOf", recurses := true, leaving := true, apart := false, narrowed := true }
def FnExactPointsOfUptoSaid : Prop := fnExactPointsOfUptoRow.holds Try.pinned (OpenSpec.upto fnExactPointsOfSpec)

/-- 'laws.FnExactGapsOf', WHERE WHAT IT READS IS OF BULK AT MOST 1048576: true; the input reads as it did. -/
def fnExactGapsOfUptoRow : OpenClaim := { program := "ytcdchieielpahaa", sum := "4321540b6eb6973ddfad54484a56a7eb2007b1038c0ab97db14c42f5cb889180", func := "loop.example/g03209/laws.FnExactGapsOf", spec := "fnExactGapsOf", recurses := true, leaving := true, apart := false, narrowed := true }
def FnExactGapsOfUptoSaid : Prop := fnExactGapsOfUptoRow.holds Try.pinned (OpenSpec.upto fnExactGapsOfSpec)

/-- 'laws.FnExactGapLengths', WHERE WHAT IT READS IS OF BULK AT MOST 1048576: true; the input reads as it did. -/
def fnExactGapLengthsUptoRow : OpenClaim := { program := "ytcdchieielpahaa", sum := "4321540b6eb6973ddfad54484a56a7eb2007b1038c0ab97db14c42f5cb889180", func := "loop.example/g03209/laws.FnExactGapLengths", spec := "fnExactGapLengths", recurses := true, leaving := true, apart := false, narrowed := true }
def FnExactGapLengthsUptoSaid : Prop := fnExactGapLengthsUptoRow.holds Try.pinned (OpenSpec.upto fnExactGapLengthsSpec)

/-- 'laws.FnExactNearestTo', WHERE WHAT IT READS IS OF BULK AT MOST 1048576: true; the input reads as it did. -/
def fnExactNearestToUptoRow : OpenClaim := { program := "ytcdchieielpahaa", sum := "4321540b6eb6973ddfad54484a56a7eb2007b1038c0ab97db14c42f5cb889180", func := "loop.example/g03209/laws.FnExactNearestTo", spec := "fnExactNearestTo", leaving := true, apart := false, narrowed := true }
def FnExactNearestToUptoSaid : Prop := fnExactNearestToUptoRow.holds Try.pinned (OpenSpec.upto fnExactNearestToSpec)

/-- 'laws.FnExactReturnTime', WHERE WHAT IT READS IS OF BULK AT MOST 1048576: true; the input reads as it did. -/
def fnExactReturnTimeUptoRow : OpenClaim := { program := "ytcdchieielpahaa", sum := "4321540b6eb6973ddfad54484a56a7eb2007b1038c0ab97db14c42f5cb889180", func := "loop.example/g03209/laws.FnExactReturnTime", spec := "fnExactReturnTime", apart := false, narrowed := true }
def FnExactReturnTimeUptoSaid : Prop := fnExactReturnTimeUptoRow.holds Try.pinned (OpenSpec.upto fnExactReturnTimeSpec)

/-- 'laws.FnExactReturnTimes', WHERE WHAT IT READS IS OF BULK AT MOST 1048576: true; the input reads as it did. -/
def fnExactReturnTimesUptoRow : OpenClaim := { program := "ytcdchieielpahaa", sum := "4321540b6eb6973ddfad54484a56a7eb2007b1038c0ab97db14c42f5cb889180", func := "loop.example/g03209/laws.FnExactReturnTimes", spec := "fnExactReturnTimes", recurses := true, apart := false, narrowed := true }
def FnExactReturnTimesUptoSaid : Prop := fnExactReturnTimesUptoRow.holds Try.pinned (OpenSpec.upto fnExactReturnTimesSpec)

/-- 'laws.FnExactCountIn', WHERE WHAT IT READS IS OF BULK AT MOST 1048576: true; the input reads as it did. -/
def fnExactCountInUptoRow : OpenClaim := { program := "ytcdchieielpahaa", sum := "4321540b6eb6973ddfad54484a56a7eb2007b1038c0ab97db14c42f5cb889180", func := "loop.example/g03209/laws.FnExactCountIn", spec := "fnExactCountIn", leaving := true, apart := false, narrowed := true }
def FnExactCountInUptoSaid : Prop := fnExactCountInUptoRow.holds Try.pinned (OpenSpec.upto fnExactCountInSpec)

/-- 'laws.FnGaps', WHERE WHAT IT READS IS OF BULK AT MOST 1048576: true; the input reads as it did. -/
def fnGapsUptoRow : OpenClaim := { program := "ytcdchieielpahaa", sum := "4321540b6eb6973ddfad54484a56a7eb2007b1038c0ab97db14c42f5cb889180", func := "loop.example/g03209/laws.FnGaps", spec := "fnGaps", recurses := true, leaving := true, apart := false, narrowed := true }
def FnGapsUptoSaid : Prop := fnGapsUptoRow.holds Try.pinned (OpenSpec.upto fnGapsSpec)

end Rows
end Go.Proofs.Ytcdchieielpahaa
