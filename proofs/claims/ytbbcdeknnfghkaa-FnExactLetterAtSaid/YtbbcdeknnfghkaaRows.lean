/-
  No cell of these rows narrows 'for every input' (looked for: loops, veiled, ifaces, maps, wideKeys, modest, calm, conditions, laid).
  DERIVED. THE GIVEN ROWS OF THIS SEAT. 8 by the template 'for every input the law returns true; each argument reads behind the call as it read before'; 0 by the template 'total and deterministic' (their statements: YtbbcdeknnfghkaaTotals.lean).
  GIVEN WITH THE SEED: the statements are not yours to turn. If you find one false, say at which input.
  Laid BY PROGRAM, IN A SANDBOX (cutbox-rows.mjs): the forced cells as the released guide's own fill.sh prints them over the translation f592eb40284f2269… (all of the seat's roots in one cut). By AI agents, Wed Nov 11 2026. No macro, syntax, notation, axiom, sorry.
-/
import Derived.Test.YtbbcdeknnfghkaaChecked
import GoSem.Claim
import GoSem.ClaimJoined
import GoSem.ClaimMapViews
import Derived.JoinedTies
import Derived.KernelRfl
namespace Go.Proofs.Ytbbcdeknnfghkaa
/- THE CELL 'sum', in the pinned program and in every row, IS THE sha256 OF THE DUMP (.gsa) THAT YtbbcdeknnfghkaaProg.lean LOADS. Nothing in Lean hashes anything: it is a label: what it is worth is what the hold of that sum in a sandbox is worth. -/
noncomputable def Try.pinned : Pinned := { name := "ytbbcdeknnfghkaa", sum := "f592eb40284f226917f7a1aec146f8055bfaa28294383c71e98e83e1319be3c1", checked := Try.checked }
namespace Rows
def none {H : Type} : Left H := { results := [], args := [] }

/-- 'laws.FnEveryText': WHATEVER THE INPUT: true; the input reads as it did. -/
def fnEveryTextSpec : ChangeSpec := { name := "fnEveryText", fn := fun _ => fun
  | [d1, d2, d3] => { results := [.lit (.bool true)], args := [d1, d2, d3] }
  | _ => none }
def fnEveryTextRow : OpenClaim := { program := "ytbbcdeknnfghkaa", sum := "f592eb40284f226917f7a1aec146f8055bfaa28294383c71e98e83e1319be3c1", func := "loop.example/g03209/laws.FnEveryText", spec := "fnEveryText", inPlace := ["internal/bytealg.IndexByteString", "internal/bytealg.IndexString"], unfollowed := true, recurses := true, named := ["internal/bytealg.MaxLen"], apart := false }
def FnEveryTextSaid : Prop := fnEveryTextRow.holds Try.pinned (OpenSpec.ofChange fnEveryTextSpec)

/-- ITS FALSE NEIGHBOUR: 'it returns false'. Refute it at one input. -/
def fnEveryTextWrong : ChangeSpec := { name := "fnEveryText", fn := fun _ => fun
  | [d1, d2, d3] => { results := [.lit (.bool false)], args := [d1, d2, d3] }
  | _ => none }
def FnEveryTextWrongFalsely : Prop := fnEveryTextRow.holds Try.pinned (OpenSpec.ofChange fnEveryTextWrong)

/-- 'laws.FnExactGrowingLetters': WHATEVER THE INPUT: true; the input reads as it did. -/
def fnExactGrowingLettersSpec : ChangeSpec := { name := "fnExactGrowingLetters", fn := fun _ => fun
  | [d] => { results := [.lit (.bool true)], args := [d] }
  | _ => none }
def fnExactGrowingLettersRow : OpenClaim := { program := "ytbbcdeknnfghkaa", sum := "f592eb40284f226917f7a1aec146f8055bfaa28294383c71e98e83e1319be3c1", func := "loop.example/g03209/laws.FnExactGrowingLetters", spec := "fnExactGrowingLetters", apart := false }
def FnExactGrowingLettersSaid : Prop := fnExactGrowingLettersRow.holds Try.pinned (OpenSpec.ofChange fnExactGrowingLettersSpec)

/-- ITS FALSE NEIGHBOUR: 'it returns false'. Refute it at one input. -/
def fnExactGrowingLettersWrong : ChangeSpec := { name := "fnExactGrowingLetters", fn := fun _ => fun
  | [d] => { results := [.lit (.bool false)], args := [d] }
  | _ => none }
def FnExactGrowingLettersWrongFalsely : Prop := fnExactGrowingLettersRow.holds Try.pinned (OpenSpec.ofChange fnExactGrowingLettersWrong)

/-- 'laws.FnExactFixedPoint': WHATEVER THE INPUT: true; the input reads as it did. -/
def fnExactFixedPointSpec : ChangeSpec := { name := "fnExactFixedPoint", fn := fun _ => fun
  | [d1, d2, d3] => { results := [.lit (.bool true)], args := [d1, d2, d3] }
  | _ => none }
def fnExactFixedPointRow : OpenClaim := { program := "ytbbcdeknnfghkaa", sum := "f592eb40284f226917f7a1aec146f8055bfaa28294383c71e98e83e1319be3c1", func := "loop.example/g03209/laws.FnExactFixedPoint", spec := "fnExactFixedPoint", inPlace := ["internal/bytealg.IndexByteString", "internal/bytealg.IndexString"], unfollowed := true, recurses := true, named := ["internal/bytealg.MaxLen"], apart := false }
def FnExactFixedPointSaid : Prop := fnExactFixedPointRow.holds Try.pinned (OpenSpec.ofChange fnExactFixedPointSpec)

/-- ITS FALSE NEIGHBOUR: 'it returns false'. Refute it at one input. -/
def fnExactFixedPointWrong : ChangeSpec := { name := "fnExactFixedPoint", fn := fun _ => fun
  | [d1, d2, d3] => { results := [.lit (.bool false)], args := [d1, d2, d3] }
  | _ => none }
def FnExactFixedPointWrongFalsely : Prop := fnExactFixedPointRow.holds Try.pinned (OpenSpec.ofChange fnExactFixedPointWrong)

/-- 'laws.FnExactIsFixedStart': WHATEVER THE INPUT: true; the input reads as it did. -/
def fnExactIsFixedStartSpec : ChangeSpec := { name := "fnExactIsFixedStart", fn := fun _ => fun
  | [d1, d2] => { results := [.lit (.bool true)], args := [d1, d2] }
  | _ => none }
def fnExactIsFixedStartRow : OpenClaim := { program := "ytbbcdeknnfghkaa", sum := "f592eb40284f226917f7a1aec146f8055bfaa28294383c71e98e83e1319be3c1", func := "loop.example/g03209/laws.FnExactIsFixedStart", spec := "fnExactIsFixedStart", inPlace := ["internal/bytealg.IndexByteString", "internal/bytealg.IndexString"], unfollowed := true, recurses := true, named := ["internal/bytealg.MaxLen"], apart := false }
def FnExactIsFixedStartSaid : Prop := fnExactIsFixedStartRow.holds Try.pinned (OpenSpec.ofChange fnExactIsFixedStartSpec)

/-- ITS FALSE NEIGHBOUR: 'it returns false'. Refute it at one input. -/
def fnExactIsFixedStartWrong : ChangeSpec := { name := "fnExactIsFixedStart", fn := fun _ => fun
  | [d1, d2] => { results := [.lit (.bool false)], args := [d1, d2] }
  | _ => none }
def FnExactIsFixedStartWrongFalsely : Prop := fnExactIsFixedStartRow.holds Try.pinned (OpenSpec.ofChange fnExactIsFixedStartWrong)

/-- 'laws.FnExactLetterAt': WHATEVER THE INPUT: true; the input reads as it did. -/
def fnExactLetterAtSpec : ChangeSpec := { name := "fnExactLetterAt", fn := fun _ => fun
  | [d1, d2, d3] => { results := [.lit (.bool true)], args := [d1, d2, d3] }
  | _ => none }
def fnExactLetterAtRow : OpenClaim := { program := "ytbbcdeknnfghkaa", sum := "f592eb40284f226917f7a1aec146f8055bfaa28294383c71e98e83e1319be3c1", func := "loop.example/g03209/laws.FnExactLetterAt", spec := "fnExactLetterAt", inPlace := ["internal/bytealg.IndexByteString", "internal/bytealg.IndexString"], unfollowed := true, recurses := true, named := ["internal/bytealg.MaxLen"], apart := false }
def FnExactLetterAtSaid : Prop := fnExactLetterAtRow.holds Try.pinned (OpenSpec.ofChange fnExactLetterAtSpec)

/-- ITS FALSE NEIGHBOUR: 'it returns false'. Refute it at one input. -/
def fnExactLetterAtWrong : ChangeSpec := { name := "fnExactLetterAt", fn := fun _ => fun
  | [d1, d2, d3] => { results := [.lit (.bool false)], args := [d1, d2, d3] }
  | _ => none }
def FnExactLetterAtWrongFalsely : Prop := fnExactLetterAtRow.holds Try.pinned (OpenSpec.ofChange fnExactLetterAtWrong)

/-- 'laws.FnExactOrbitOfFirst': WHATEVER THE INPUT: true; the input reads as it did. -/
def fnExactOrbitOfFirstSpec : ChangeSpec := { name := "fnExactOrbitOfFirst", fn := fun _ => fun
  | [d1, d2] => { results := [.lit (.bool true)], args := [d1, d2] }
  | _ => none }
def fnExactOrbitOfFirstRow : OpenClaim := { program := "ytbbcdeknnfghkaa", sum := "f592eb40284f226917f7a1aec146f8055bfaa28294383c71e98e83e1319be3c1", func := "loop.example/g03209/laws.FnExactOrbitOfFirst", spec := "fnExactOrbitOfFirst", unfollowed := true, recurses := true, apart := false }
def FnExactOrbitOfFirstSaid : Prop := fnExactOrbitOfFirstRow.holds Try.pinned (OpenSpec.ofChange fnExactOrbitOfFirstSpec)

/-- ITS FALSE NEIGHBOUR: 'it returns false'. Refute it at one input. -/
def fnExactOrbitOfFirstWrong : ChangeSpec := { name := "fnExactOrbitOfFirst", fn := fun _ => fun
  | [d1, d2] => { results := [.lit (.bool false)], args := [d1, d2] }
  | _ => none }
def FnExactOrbitOfFirstWrongFalsely : Prop := fnExactOrbitOfFirstRow.holds Try.pinned (OpenSpec.ofChange fnExactOrbitOfFirstWrong)

/-- 'laws.FnExactPowerNeeded': WHATEVER THE INPUT: true; the input reads as it did. -/
def fnExactPowerNeededSpec : ChangeSpec := { name := "fnExactPowerNeeded", fn := fun _ => fun
  | [d] => { results := [.lit (.bool true)], args := [d] }
  | _ => none }
def fnExactPowerNeededRow : OpenClaim := { program := "ytbbcdeknnfghkaa", sum := "f592eb40284f226917f7a1aec146f8055bfaa28294383c71e98e83e1319be3c1", func := "loop.example/g03209/laws.FnExactPowerNeeded", spec := "fnExactPowerNeeded", unfollowed := true, recurses := true, apart := false }
def FnExactPowerNeededSaid : Prop := fnExactPowerNeededRow.holds Try.pinned (OpenSpec.ofChange fnExactPowerNeededSpec)

/-- ITS FALSE NEIGHBOUR: 'it returns false'. Refute it at one input. -/
def fnExactPowerNeededWrong : ChangeSpec := { name := "fnExactPowerNeeded", fn := fun _ => fun
  | [d] => { results := [.lit (.bool false)], args := [d] }
  | _ => none }
def FnExactPowerNeededWrongFalsely : Prop := fnExactPowerNeededRow.holds Try.pinned (OpenSpec.ofChange fnExactPowerNeededWrong)

/-- 'laws.FnExactFixedFactors': WHATEVER THE INPUT: true; the input reads as it did. -/
def fnExactFixedFactorsSpec : ChangeSpec := { name := "fnExactFixedFactors", fn := fun _ => fun
  | [d1, d2, d3] => { results := [.lit (.bool true)], args := [d1, d2, d3] }
  | _ => none }
def fnExactFixedFactorsRow : OpenClaim := { program := "ytbbcdeknnfghkaa", sum := "f592eb40284f226917f7a1aec146f8055bfaa28294383c71e98e83e1319be3c1", func := "loop.example/g03209/laws.FnExactFixedFactors", spec := "fnExactFixedFactors", inPlace := ["internal/bytealg.IndexByteString", "internal/bytealg.IndexString"], unfollowed := true, recurses := true, named := ["internal/bytealg.MaxLen"], apart := false }
def FnExactFixedFactorsSaid : Prop := fnExactFixedFactorsRow.holds Try.pinned (OpenSpec.ofChange fnExactFixedFactorsSpec)

/-- ITS FALSE NEIGHBOUR: 'it returns false'. Refute it at one input. -/
def fnExactFixedFactorsWrong : ChangeSpec := { name := "fnExactFixedFactors", fn := fun _ => fun
  | [d1, d2, d3] => { results := [.lit (.bool false)], args := [d1, d2, d3] }
  | _ => none }
def FnExactFixedFactorsWrongFalsely : Prop := fnExactFixedFactorsRow.holds Try.pinned (OpenSpec.ofChange fnExactFixedFactorsWrong)

/- THE SECOND FORM. 'bulk': how many values and letters a reading holds, each counted each time it is reached (what is shared counts as often as it is met; a slice's spare places count too). A statement '..UptoSaid' is the law's where the arguments, and the package variables that the reading takes, are together of bulk at most 1048576: NARROWER than '..Said'. Prove '..Said' where nothing that the law and all that it calls make is longer than what came in: it says more and counts as full. Else prove '..UptoSaid'. A law counts once. -/
mutual
def uptoBulk {H : Type} : DataW H → Nat
  | .lit (.string bytes) => bytes.length + 1
  | .lit _ => 1
  | .nil => 1
  | .ptr d => uptoBulk d + 1
  | .slice elems spare => uptoBulkAll elems + uptoBulkAll spare + 1
  | .agg parts => uptoBulkAll parts + 1
  | .iface _ d => uptoBulk d + 1
  | .map entries => uptoBulkEntries entries + 1
  | .held _ => 1
def uptoBulkAll {H : Type} : List (DataW H) → Nat
  | [] => 0
  | d :: r => uptoBulk d + uptoBulkAll r
def uptoBulkEntries {H : Type} : List (Lit × DataW H) → Nat
  | [] => 0
  | x :: r => uptoBulkEntry x + uptoBulkEntries r
def uptoBulkEntry {H : Type} : Lit × DataW H → Nat
  | (.string bytes, d) => bytes.length + uptoBulk d + 1
  | (_, d) => uptoBulk d + 1
 end
def uptoSmall : (H : Type) → List (DataW H) → Bool := fun _ ds => decide (uptoBulkAll ds ≤ 1048576)
def OpenSpec.upto (s : _root_.Go.ChangeSpec) : _root_.Go.OpenSpec := { _root_.Go.OpenSpec.ofChange s with cond := some uptoSmall }

/-- 'laws.FnEveryText', WHERE WHAT IT READS IS OF BULK AT MOST 1048576: true; the input reads as it did. -/
def fnEveryTextUptoRow : OpenClaim := { program := "ytbbcdeknnfghkaa", sum := "f592eb40284f226917f7a1aec146f8055bfaa28294383c71e98e83e1319be3c1", func := "loop.example/g03209/laws.FnEveryText", spec := "fnEveryText", inPlace := ["internal/bytealg.IndexByteString", "internal/bytealg.IndexString"], unfollowed := true, recurses := true, named := ["internal/bytealg.MaxLen"], apart := false, narrowed := true }
def FnEveryTextUptoSaid : Prop := fnEveryTextUptoRow.holds Try.pinned (OpenSpec.upto fnEveryTextSpec)

/-- 'laws.FnExactGrowingLetters', WHERE WHAT IT READS IS OF BULK AT MOST 1048576: true; the input reads as it did. -/
def fnExactGrowingLettersUptoRow : OpenClaim := { program := "ytbbcdeknnfghkaa", sum := "f592eb40284f226917f7a1aec146f8055bfaa28294383c71e98e83e1319be3c1", func := "loop.example/g03209/laws.FnExactGrowingLetters", spec := "fnExactGrowingLetters", apart := false, narrowed := true }
def FnExactGrowingLettersUptoSaid : Prop := fnExactGrowingLettersUptoRow.holds Try.pinned (OpenSpec.upto fnExactGrowingLettersSpec)

/-- 'laws.FnExactFixedPoint', WHERE WHAT IT READS IS OF BULK AT MOST 1048576: true; the input reads as it did. -/
def fnExactFixedPointUptoRow : OpenClaim := { program := "ytbbcdeknnfghkaa", sum := "f592eb40284f226917f7a1aec146f8055bfaa28294383c71e98e83e1319be3c1", func := "loop.example/g03209/laws.FnExactFixedPoint", spec := "fnExactFixedPoint", inPlace := ["internal/bytealg.IndexByteString", "internal/bytealg.IndexString"], unfollowed := true, recurses := true, named := ["internal/bytealg.MaxLen"], apart := false, narrowed := true }
def FnExactFixedPointUptoSaid : Prop := fnExactFixedPointUptoRow.holds Try.pinned (OpenSpec.upto fnExactFixedPointSpec)

/-- 'laws.FnExactIsFixedStart', WHERE WHAT IT READS IS OF BULK AT MOST 1048576: true; the input reads as it did. -/
def fnExactIsFixedStartUptoRow : OpenClaim := { program := "ytbbcdeknnfghkaa", sum := "f592eb40284f226917f7a1aec146f8055bfaa28294383c71e98e83e1319be3c1", func := "loop.example/g03209/laws.FnExactIsFixedStart", spec := "fnExactIsFixedStart", inPlace := ["internal/bytealg.IndexByteString", "internal/bytealg.IndexString"], unfollowed := true, recurses := true, named := ["internal/bytealg.MaxLen"], apart := false, narrowed := true }
def FnExactIsFixedStartUptoSaid : Prop := fnExactIsFixedStartUptoRow.holds Try.pinned (OpenSpec.upto fnExactIsFixedStartSpec)

/-- 'laws.FnExactLetterAt', WHERE WHAT IT READS IS OF BULK AT MOST 1048576: true; the input reads as it did. -/
def fnExactLetterAtUptoRow : OpenClaim := { program := "ytbbcdeknnfghkaa", sum := "f592eb40284f226917f7a1aec146f8055bfaa28294383c71e98e83e1319be3c1", func := "loop.example/g03209/laws.FnExactLetterAt", spec := "fnExactLetterAt", inPlace := ["internal/bytealg.IndexByteString", "internal/bytealg.IndexString"], unfollowed := true, recurses := true, named := ["internal/bytealg.MaxLen"], apart := false, narrowed := true }
def FnExactLetterAtUptoSaid : Prop := fnExactLetterAtUptoRow.holds Try.pinned (OpenSpec.upto fnExactLetterAtSpec)

/-- 'laws.FnExactOrbitOfFirst', WHERE WHAT IT READS IS OF BULK AT MOST 1048576: true; the input reads as it did. -/
def fnExactOrbitOfFirstUptoRow : OpenClaim := { program := "ytbbcdeknnfghkaa", sum := "f592eb40284f226917f7a1aec146f8055bfaa28294383c71e98e83e1319be3c1", func := "loop.example/g03209/laws.FnExactOrbitOfFirst", spec := "fnExactOrbitOfFirst", unfollowed := true, recurses := true, apart := false, narrowed := true }
def FnExactOrbitOfFirstUptoSaid : Prop := fnExactOrbitOfFirstUptoRow.holds Try.pinned (OpenSpec.upto fnExactOrbitOfFirstSpec)

/-- 'laws.FnExactPowerNeeded', WHERE WHAT IT READS IS OF BULK AT MOST 1048576: true; the input reads as it did. -/
def fnExactPowerNeededUptoRow : OpenClaim := { program := "ytbbcdeknnfghkaa", sum := "f592eb40284f226917f7a1aec146f8055bfaa28294383c71e98e83e1319be3c1", func := "loop.example/g03209/laws.FnExactPowerNeeded", spec := "fnExactPowerNeeded", unfollowed := true, recurses := true, apart := false, narrowed := true }
def FnExactPowerNeededUptoSaid : Prop := fnExactPowerNeededUptoRow.holds Try.pinned (OpenSpec.upto fnExactPowerNeededSpec)

/-- 'laws.FnExactFixedFactors', WHERE WHAT IT READS IS OF BULK AT MOST 1048576: true; the input reads as it did. -/
def fnExactFixedFactorsUptoRow : OpenClaim := { program := "ytbbcdeknnfghkaa", sum := "f592eb40284f226917f7a1aec146f8055bfaa28294383c71e98e83e1319be3c1", func := "loop.example/g03209/laws.FnExactFixedFactors", spec := "fnExactFixedFactors", inPlace := ["internal/bytealg.IndexByteString", "internal/bytealg.IndexString"], unfollowed := true, recurses := true, named := ["internal/bytealg.MaxLen"], apart := false, narrowed := true }
def FnExactFixedFactorsUptoSaid : Prop := fnExactFixedFactorsUptoRow.holds Try.pinned (OpenSpec.upto fnExactFixedFactorsSpec)

end Rows
end Go.Proofs.Ytbbcdeknnfghkaa
