/-
  No cell of these rows narrows 'for every input' (looked for: loops, veiled, ifaces, maps, wideKeys, modest, calm, conditions, laid).
  DERIVED. THE GIVEN ROWS OF THIS SEAT. 12 by the template 'for every input the law returns true; each argument reads behind the call as it read before'; 0 by the template 'total and deterministic' (their statements: YtgfhconcmoepcaaTotals.lean).
  GIVEN WITH THE SEED: the statements are not yours to turn. If you find one false, say at which input.
  Laid BY PROGRAM, IN A SANDBOX (cutbox-rows.mjs): the forced cells as the released guide's own fill.sh prints them over the translation 08b6fae3bd5f9a49… (all of the seat's roots in one cut). By AI agents, Wed Nov 11 2026. No macro, syntax, notation, axiom, sorry.
-/
import Derived.Test.YtgfhconcmoepcaaChecked
import GoSem.Claim
import GoSem.ClaimJoined
import GoSem.ClaimMapViews
import Derived.JoinedTies
import Derived.KernelRfl
namespace Go.Proofs.Ytgfhconcmoepcaa
/- THE CELL 'sum', in the pinned program and in every row, IS THE sha256 OF THE DUMP (.gsa) THAT YtgfhconcmoepcaaProg.lean LOADS. Nothing in Lean hashes anything: it is a label: what it is worth is what the hold of that sum in a sandbox is worth. -/
noncomputable def Try.pinned : Pinned := { name := "ytgfhconcmoepcaa", sum := "08b6fae3bd5f9a4941f8d3d00c44cc61553aaeb1f96521aec691a380ac6f1ac3", checked := Try.checked }
namespace Rows
def none {H : Type} : Left H := { results := [], args := [] }

/-- 'laws.FnPeriods': WHATEVER THE INPUT: true; the input reads as it did. -/
def fnPeriodsSpec : ChangeSpec := { name := "fnPeriods", fn := fun _ => fun
  | [d] => { results := [.lit (.bool true)], args := [d] }
  | _ => none }
def fnPeriodsRow : OpenClaim := { program := "ytgfhconcmoepcaa", sum := "08b6fae3bd5f9a4941f8d3d00c44cc61553aaeb1f96521aec691a380ac6f1ac3", func := "loop.example/g03209/laws.FnPeriods", spec := "fnPeriods", inPlace := ["internal/bytealg.IndexByteString", "internal/bytealg.IndexString"], unfollowed := true, recurses := true, named := ["internal/bytealg.MaxLen"], apart := false }
def FnPeriodsSaid : Prop := fnPeriodsRow.holds Try.pinned (OpenSpec.ofChange fnPeriodsSpec)

/-- ITS FALSE NEIGHBOUR: 'it returns false'. Refute it at one input. -/
def fnPeriodsWrong : ChangeSpec := { name := "fnPeriods", fn := fun _ => fun
  | [d] => { results := [.lit (.bool false)], args := [d] }
  | _ => none }
def FnPeriodsWrongFalsely : Prop := fnPeriodsRow.holds Try.pinned (OpenSpec.ofChange fnPeriodsWrong)

/-- 'laws.FnLetters': WHATEVER THE INPUT: true; the input reads as it did. -/
def fnLettersSpec : ChangeSpec := { name := "fnLetters", fn := fun _ => fun
  | [d] => { results := [.lit (.bool true)], args := [d] }
  | _ => none }
def fnLettersRow : OpenClaim := { program := "ytgfhconcmoepcaa", sum := "08b6fae3bd5f9a4941f8d3d00c44cc61553aaeb1f96521aec691a380ac6f1ac3", func := "loop.example/g03209/laws.FnLetters", spec := "fnLetters", inPlace := ["internal/bytealg.IndexByteString", "internal/bytealg.IndexString", "internal/bytealg.CountString"], named := ["internal/bytealg.MaxLen"], apart := false }
def FnLettersSaid : Prop := fnLettersRow.holds Try.pinned (OpenSpec.ofChange fnLettersSpec)

/-- ITS FALSE NEIGHBOUR: 'it returns false'. Refute it at one input. -/
def fnLettersWrong : ChangeSpec := { name := "fnLetters", fn := fun _ => fun
  | [d] => { results := [.lit (.bool false)], args := [d] }
  | _ => none }
def FnLettersWrongFalsely : Prop := fnLettersRow.holds Try.pinned (OpenSpec.ofChange fnLettersWrong)

/-- 'laws.FnExactBordersOf': WHATEVER THE INPUT: true; the input reads as it did. -/
def fnExactBordersOfSpec : ChangeSpec := { name := "fnExactBordersOf", fn := fun _ => fun
  | [d] => { results := [.lit (.bool true)], args := [d] }
  | _ => none }
def fnExactBordersOfRow : OpenClaim := { program := "ytgfhconcmoepcaa", sum := "08b6fae3bd5f9a4941f8d3d00c44cc61553aaeb1f96521aec691a380ac6f1ac3", func := "loop.example/g03209/laws.FnExactBordersOf", spec := "fnExactBordersOf", unfollowed := true, recurses := true, apart := false }
def FnExactBordersOfSaid : Prop := fnExactBordersOfRow.holds Try.pinned (OpenSpec.ofChange fnExactBordersOfSpec)

/-- ITS FALSE NEIGHBOUR: 'it returns false'. Refute it at one input. -/
def fnExactBordersOfWrong : ChangeSpec := { name := "fnExactBordersOf", fn := fun _ => fun
  | [d] => { results := [.lit (.bool false)], args := [d] }
  | _ => none }
def FnExactBordersOfWrongFalsely : Prop := fnExactBordersOfRow.holds Try.pinned (OpenSpec.ofChange fnExactBordersOfWrong)

/-- 'laws.FnExactPeriodsOf': WHATEVER THE INPUT: true; the input reads as it did. -/
def fnExactPeriodsOfSpec : ChangeSpec := { name := "fnExactPeriodsOf", fn := fun _ => fun
  | [d] => { results := [.lit (.bool true)], args := [d] }
  | _ => none }
def fnExactPeriodsOfRow : OpenClaim := { program := "ytgfhconcmoepcaa", sum := "08b6fae3bd5f9a4941f8d3d00c44cc61553aaeb1f96521aec691a380ac6f1ac3", func := "loop.example/g03209/laws.FnExactPeriodsOf", spec := "fnExactPeriodsOf", unfollowed := true, recurses := true, apart := false }
def FnExactPeriodsOfSaid : Prop := fnExactPeriodsOfRow.holds Try.pinned (OpenSpec.ofChange fnExactPeriodsOfSpec)

/-- ITS FALSE NEIGHBOUR: 'it returns false'. Refute it at one input. -/
def fnExactPeriodsOfWrong : ChangeSpec := { name := "fnExactPeriodsOf", fn := fun _ => fun
  | [d] => { results := [.lit (.bool false)], args := [d] }
  | _ => none }
def FnExactPeriodsOfWrongFalsely : Prop := fnExactPeriodsOfRow.holds Try.pinned (OpenSpec.ofChange fnExactPeriodsOfWrong)

/-- 'laws.FnExactRootOf': WHATEVER THE INPUT: true; the input reads as it did. -/
def fnExactRootOfSpec : ChangeSpec := { name := "fnExactRootOf", fn := fun _ => fun
  | [d] => { results := [.lit (.bool true)], args := [d] }
  | _ => none }
def fnExactRootOfRow : OpenClaim := { program := "ytgfhconcmoepcaa", sum := "08b6fae3bd5f9a4941f8d3d00c44cc61553aaeb1f96521aec691a380ac6f1ac3", func := "loop.example/g03209/laws.FnExactRootOf", spec := "fnExactRootOf", unfollowed := true, recurses := true, apart := false }
def FnExactRootOfSaid : Prop := fnExactRootOfRow.holds Try.pinned (OpenSpec.ofChange fnExactRootOfSpec)

/-- ITS FALSE NEIGHBOUR: 'it returns false'. Refute it at one input. -/
def fnExactRootOfWrong : ChangeSpec := { name := "fnExactRootOf", fn := fun _ => fun
  | [d] => { results := [.lit (.bool false)], args := [d] }
  | _ => none }
def FnExactRootOfWrongFalsely : Prop := fnExactRootOfRow.holds Try.pinned (OpenSpec.ofChange fnExactRootOfWrong)

/-- 'laws.FnExactIsPrimitiveWord': WHATEVER THE INPUT: true; the input reads as it did. -/
def fnExactIsPrimitiveWordSpec : ChangeSpec := { name := "fnExactIsPrimitiveWord", fn := fun _ => fun
  | [d] => { results := [.lit (.bool true)], args := [d] }
  | _ => none }
def fnExactIsPrimitiveWordRow : OpenClaim := { program := "ytgfhconcmoepcaa", sum := "08b6fae3bd5f9a4941f8d3d00c44cc61553aaeb1f96521aec691a380ac6f1ac3", func := "loop.example/g03209/laws.FnExactIsPrimitiveWord", spec := "fnExactIsPrimitiveWord", unfollowed := true, recurses := true, apart := false }
def FnExactIsPrimitiveWordSaid : Prop := fnExactIsPrimitiveWordRow.holds Try.pinned (OpenSpec.ofChange fnExactIsPrimitiveWordSpec)

/-- ITS FALSE NEIGHBOUR: 'it returns false'. Refute it at one input. -/
def fnExactIsPrimitiveWordWrong : ChangeSpec := { name := "fnExactIsPrimitiveWord", fn := fun _ => fun
  | [d] => { results := [.lit (.bool false)], args := [d] }
  | _ => none }
def FnExactIsPrimitiveWordWrongFalsely : Prop := fnExactIsPrimitiveWordRow.holds Try.pinned (OpenSpec.ofChange fnExactIsPrimitiveWordWrong)

/-- 'laws.FnExactLeastShift': WHATEVER THE INPUT: true; the input reads as it did. -/
def fnExactLeastShiftSpec : ChangeSpec := { name := "fnExactLeastShift", fn := fun _ => fun
  | [d] => { results := [.lit (.bool true)], args := [d] }
  | _ => none }
def fnExactLeastShiftRow : OpenClaim := { program := "ytgfhconcmoepcaa", sum := "08b6fae3bd5f9a4941f8d3d00c44cc61553aaeb1f96521aec691a380ac6f1ac3", func := "loop.example/g03209/laws.FnExactLeastShift", spec := "fnExactLeastShift", apart := false }
def FnExactLeastShiftSaid : Prop := fnExactLeastShiftRow.holds Try.pinned (OpenSpec.ofChange fnExactLeastShiftSpec)

/-- ITS FALSE NEIGHBOUR: 'it returns false'. Refute it at one input. -/
def fnExactLeastShiftWrong : ChangeSpec := { name := "fnExactLeastShift", fn := fun _ => fun
  | [d] => { results := [.lit (.bool false)], args := [d] }
  | _ => none }
def FnExactLeastShiftWrongFalsely : Prop := fnExactLeastShiftRow.holds Try.pinned (OpenSpec.ofChange fnExactLeastShiftWrong)

/-- 'laws.FnExactIsLyndon': WHATEVER THE INPUT: true; the input reads as it did. -/
def fnExactIsLyndonSpec : ChangeSpec := { name := "fnExactIsLyndon", fn := fun _ => fun
  | [d] => { results := [.lit (.bool true)], args := [d] }
  | _ => none }
def fnExactIsLyndonRow : OpenClaim := { program := "ytgfhconcmoepcaa", sum := "08b6fae3bd5f9a4941f8d3d00c44cc61553aaeb1f96521aec691a380ac6f1ac3", func := "loop.example/g03209/laws.FnExactIsLyndon", spec := "fnExactIsLyndon", unfollowed := true, recurses := true, apart := false }
def FnExactIsLyndonSaid : Prop := fnExactIsLyndonRow.holds Try.pinned (OpenSpec.ofChange fnExactIsLyndonSpec)

/-- ITS FALSE NEIGHBOUR: 'it returns false'. Refute it at one input. -/
def fnExactIsLyndonWrong : ChangeSpec := { name := "fnExactIsLyndon", fn := fun _ => fun
  | [d] => { results := [.lit (.bool false)], args := [d] }
  | _ => none }
def FnExactIsLyndonWrongFalsely : Prop := fnExactIsLyndonRow.holds Try.pinned (OpenSpec.ofChange fnExactIsLyndonWrong)

/-- 'laws.FnExactLyndonParts': WHATEVER THE INPUT: true; the input reads as it did. -/
def fnExactLyndonPartsSpec : ChangeSpec := { name := "fnExactLyndonParts", fn := fun _ => fun
  | [d] => { results := [.lit (.bool true)], args := [d] }
  | _ => none }
def fnExactLyndonPartsRow : OpenClaim := { program := "ytgfhconcmoepcaa", sum := "08b6fae3bd5f9a4941f8d3d00c44cc61553aaeb1f96521aec691a380ac6f1ac3", func := "loop.example/g03209/laws.FnExactLyndonParts", spec := "fnExactLyndonParts", apart := false }
def FnExactLyndonPartsSaid : Prop := fnExactLyndonPartsRow.holds Try.pinned (OpenSpec.ofChange fnExactLyndonPartsSpec)

/-- ITS FALSE NEIGHBOUR: 'it returns false'. Refute it at one input. -/
def fnExactLyndonPartsWrong : ChangeSpec := { name := "fnExactLyndonParts", fn := fun _ => fun
  | [d] => { results := [.lit (.bool false)], args := [d] }
  | _ => none }
def FnExactLyndonPartsWrongFalsely : Prop := fnExactLyndonPartsRow.holds Try.pinned (OpenSpec.ofChange fnExactLyndonPartsWrong)

/-- 'laws.FnExactAreConjugate': WHATEVER THE INPUT: true; the input reads as it did. -/
def fnExactAreConjugateSpec : ChangeSpec := { name := "fnExactAreConjugate", fn := fun _ => fun
  | [d1, d2] => { results := [.lit (.bool true)], args := [d1, d2] }
  | _ => none }
def fnExactAreConjugateRow : OpenClaim := { program := "ytgfhconcmoepcaa", sum := "08b6fae3bd5f9a4941f8d3d00c44cc61553aaeb1f96521aec691a380ac6f1ac3", func := "loop.example/g03209/laws.FnExactAreConjugate", spec := "fnExactAreConjugate", inPlace := ["internal/bytealg.IndexByteString", "internal/bytealg.IndexString"], named := ["internal/bytealg.MaxLen"], apart := false }
def FnExactAreConjugateSaid : Prop := fnExactAreConjugateRow.holds Try.pinned (OpenSpec.ofChange fnExactAreConjugateSpec)

/-- ITS FALSE NEIGHBOUR: 'it returns false'. Refute it at one input. -/
def fnExactAreConjugateWrong : ChangeSpec := { name := "fnExactAreConjugate", fn := fun _ => fun
  | [d1, d2] => { results := [.lit (.bool false)], args := [d1, d2] }
  | _ => none }
def FnExactAreConjugateWrongFalsely : Prop := fnExactAreConjugateRow.holds Try.pinned (OpenSpec.ofChange fnExactAreConjugateWrong)

/-- 'laws.FnExactCountLyndon': WHATEVER THE INPUT: true; the input reads as it did. -/
def fnExactCountLyndonSpec : ChangeSpec := { name := "fnExactCountLyndon", fn := fun _ => fun
  | [d1, d2] => { results := [.lit (.bool true)], args := [d1, d2] }
  | _ => none }
def fnExactCountLyndonRow : OpenClaim := { program := "ytgfhconcmoepcaa", sum := "08b6fae3bd5f9a4941f8d3d00c44cc61553aaeb1f96521aec691a380ac6f1ac3", func := "loop.example/g03209/laws.FnExactCountLyndon", spec := "fnExactCountLyndon", recurses := true, apart := false }
def FnExactCountLyndonSaid : Prop := fnExactCountLyndonRow.holds Try.pinned (OpenSpec.ofChange fnExactCountLyndonSpec)

/-- ITS FALSE NEIGHBOUR: 'it returns false'. Refute it at one input. -/
def fnExactCountLyndonWrong : ChangeSpec := { name := "fnExactCountLyndon", fn := fun _ => fun
  | [d1, d2] => { results := [.lit (.bool false)], args := [d1, d2] }
  | _ => none }
def FnExactCountLyndonWrongFalsely : Prop := fnExactCountLyndonRow.holds Try.pinned (OpenSpec.ofChange fnExactCountLyndonWrong)

/-- 'laws.FnExactAllPeriodsFine': WHATEVER THE INPUT: true; the input reads as it did. -/
def fnExactAllPeriodsFineSpec : ChangeSpec := { name := "fnExactAllPeriodsFine", fn := fun _ => fun
  | [d1, d2, d3] => { results := [.lit (.bool true)], args := [d1, d2, d3] }
  | _ => none }
def fnExactAllPeriodsFineRow : OpenClaim := { program := "ytgfhconcmoepcaa", sum := "08b6fae3bd5f9a4941f8d3d00c44cc61553aaeb1f96521aec691a380ac6f1ac3", func := "loop.example/g03209/laws.FnExactAllPeriodsFine", spec := "fnExactAllPeriodsFine", unfollowed := true, recurses := true, apart := false }
def FnExactAllPeriodsFineSaid : Prop := fnExactAllPeriodsFineRow.holds Try.pinned (OpenSpec.ofChange fnExactAllPeriodsFineSpec)

/-- ITS FALSE NEIGHBOUR: 'it returns false'. Refute it at one input. -/
def fnExactAllPeriodsFineWrong : ChangeSpec := { name := "fnExactAllPeriodsFine", fn := fun _ => fun
  | [d1, d2, d3] => { results := [.lit (.bool false)], args := [d1, d2, d3] }
  | _ => none }
def FnExactAllPeriodsFineWrongFalsely : Prop := fnExactAllPeriodsFineRow.holds Try.pinned (OpenSpec.ofChange fnExactAllPeriodsFineWrong)

/- THE SECOND FORM. 'bulk': how many values and letters a reading holds, each counted each time it is reached (what is shared counts as often as it is met; a slice's spare places count too). A statement '..UptoSaid' is the law's where the arguments, and the package variables that the reading takes, are together of bulk at most 1048576: NARROWER than '..Said'. Prove '..Said' where nothing that the law and all that it calls make is longer than what came in: it says more and counts as full. Else prove '..UptoSaid'. A law counts once. -/
mutual
def uptoBulk {H : Type} : DataW H → Nat
  | .lit (.string bytes) => bytes.length + 1
  | .lit _ => 1
  | .nil => 1
  | .ptr d => uptoBulk d + 1
  | .slice elems spare => uptoBulkAll elems + uptoBulkAll spare + 1
  | .agg parts => uptoBulkAll parts + 1
  | .iface _ d => uptoBulk d + 1
  | .map entries => uptoBulkEntries entries + 1
  | .held _ => 1
def uptoBulkAll {H : Type} : List (DataW H) → Nat
  | [] => 0
  | d :: r => uptoBulk d + uptoBulkAll r
def uptoBulkEntries {H : Type} : List (Lit × DataW H) → Nat
  | [] => 0
  | x :: r => uptoBulkEntry x + uptoBulkEntries r
def uptoBulkEntry {H : Type} : Lit × DataW H → Nat
  | (.string bytes, d) => bytes.length + uptoBulk d + 1
  | (_, d) => uptoBulk d + 1
 end
def uptoSmall : (H : Type) → List (DataW H) → Bool := fun _ ds => decide (uptoBulkAll ds ≤ 1048576)
def OpenSpec.upto (s : _root_.Go.ChangeSpec) : _root_.Go.OpenSpec := { _root_.Go.OpenSpec.ofChange s with cond := some uptoSmall }

/-- 'laws.FnPeriods', WHERE WHAT IT READS IS OF BULK AT MOST 1048576: true; the input reads as it did. -/
def fnPeriodsUptoRow : OpenClaim := { program := "ytgfhconcmoepcaa", sum := "08b6fae3bd5f9a4941f8d3d00c44cc61553aaeb1f96521aec691a380ac6f1ac3", func := "loop.example/g03209/laws.FnPeriods", spec := "fnPeriods", inPlace := ["internal/bytealg.IndexByteString", "internal/bytealg.IndexString"], unfollowed := true, recurses := true, named := ["internal/bytealg.MaxLen"], apart := false, narrowed := true }
def FnPeriodsUptoSaid : Prop := fnPeriodsUptoRow.holds Try.pinned (OpenSpec.upto fnPeriodsSpec)

/-- 'laws.FnLetters', WHERE WHAT IT READS IS OF BULK AT MOST 1048576: true; the input reads as it did. -/
def fnLettersUptoRow : OpenClaim := { program := "ytgfhconcmoepcaa", sum := "08b6fae3bd5f9a4941f8d3d00c44cc61553aaeb1f96521aec691a380ac6f1ac3", func := "loop.example/g03209/laws.FnLetters", spec := "fnLetters", inPlace := ["internal/bytealg.IndexByteString", "internal/bytealg.IndexString", "internal/bytealg.CountString"], named := ["internal/bytealg.MaxLen"], apart := false, narrowed := true }
def FnLettersUptoSaid : Prop := fnLettersUptoRow.holds Try.pinned (OpenSpec.upto fnLettersSpec)

/-- 'laws.FnExactBordersOf', WHERE WHAT IT READS IS OF BULK AT MOST 1048576: true; the input reads as it did. -/
def fnExactBordersOfUptoRow : OpenClaim := { program := "ytgfhconcmoepcaa", sum := "08b6fae3bd5f9a4941f8d3d00c44cc61553aaeb1f96521aec691a380ac6f1ac3", func := "loop.example/g03209/laws.FnExactBordersOf", spec := "fnExactBordersOf", unfollowed := true, recurses := true, apart := false, narrowed := true }
def FnExactBordersOfUptoSaid : Prop := fnExactBordersOfUptoRow.holds Try.pinned (OpenSpec.upto fnExactBordersOfSpec)

/-- 'laws.FnExactPeriodsOf', WHERE WHAT IT READS IS OF BULK AT MOST 1048576: true; the input reads as it did. -/
def fnExactPeriodsOfUptoRow : OpenClaim := { program := "ytgfhconcmoepcaa", sum := "08b6fae3bd5f9a4941f8d3d00c44cc61553aaeb1f96521aec691a380ac6f1ac3", func := "loop.example/g03209/laws.FnExactPeriodsOf", spec := "fnExactPeriodsOf", unfollowed := true, recurses := true, apart := false, narrowed := true }
def FnExactPeriodsOfUptoSaid : Prop := fnExactPeriodsOfUptoRow.holds Try.pinned (OpenSpec.upto fnExactPeriodsOfSpec)

/-- 'laws.FnExactRootOf', WHERE WHAT IT READS IS OF BULK AT MOST 1048576: true; the input reads as it did. -/
def fnExactRootOfUptoRow : OpenClaim := { program := "ytgfhconcmoepcaa", sum := "08b6fae3bd5f9a4941f8d3d00c44cc61553aaeb1f96521aec691a380ac6f1ac3", func := "loop.example/g03209/laws.FnExactRootOf", spec := "fnExactRootOf", unfollowed := true, recurses := true, apart := false, narrowed := true }
def FnExactRootOfUptoSaid : Prop := fnExactRootOfUptoRow.holds Try.pinned (OpenSpec.upto fnExactRootOfSpec)

/-- 'laws.FnExactIsPrimitiveWord', WHERE WHAT IT READS IS OF BULK AT MOST 1048576: true; the input reads as it did. -/
def fnExactIsPrimitiveWordUptoRow : OpenClaim := { program := "ytgfhconcmoepcaa", sum := "08b6fae3bd5f9a4941f8d3d00c44cc61553aaeb1f96521aec691a380ac6f1ac3", func := "loop.example/g03209/laws.FnExactIsPrimitiveWord", spec := "fnExactIsPrimitiveWord", unfollowed := true, recurses := true, apart := false, narrowed := true }
def FnExactIsPrimitiveWordUptoSaid : Prop := fnExactIsPrimitiveWordUptoRow.holds Try.pinned (OpenSpec.upto fnExactIsPrimitiveWordSpec)

/-- 'laws.FnExactLeastShift', WHERE WHAT IT READS IS OF BULK AT MOST 1048576: true; the input reads as it did. -/
def fnExactLeastShiftUptoRow : OpenClaim := { program := "ytgfhconcmoepcaa", sum := "08b6fae3bd5f9a4941f8d3d00c44cc61553aaeb1f96521aec691a380ac6f1ac3", func := "loop.example/g03209/laws.FnExactLeastShift", spec := "fnExactLeastShift", apart := false, narrowed := true }
def FnExactLeastShiftUptoSaid : Prop := fnExactLeastShiftUptoRow.holds Try.pinned (OpenSpec.upto fnExactLeastShiftSpec)

/-- 'laws.FnExactIsLyndon', WHERE WHAT IT READS IS OF BULK AT MOST 1048576: true; the input reads as it did. -/
def fnExactIsLyndonUptoRow : OpenClaim := { program := "ytgfhconcmoepcaa", sum := "08b6fae3bd5f9a4941f8d3d00c44cc61553aaeb1f96521aec691a380ac6f1ac3", func := "loop.example/g03209/laws.FnExactIsLyndon", spec := "fnExactIsLyndon", unfollowed := true, recurses := true, apart := false, narrowed := true }
def FnExactIsLyndonUptoSaid : Prop := fnExactIsLyndonUptoRow.holds Try.pinned (OpenSpec.upto fnExactIsLyndonSpec)

/-- 'laws.FnExactLyndonParts', WHERE WHAT IT READS IS OF BULK AT MOST 1048576: true; the input reads as it did. -/
def fnExactLyndonPartsUptoRow : OpenClaim := { program := "ytgfhconcmoepcaa", sum := "08b6fae3bd5f9a4941f8d3d00c44cc61553aaeb1f96521aec691a380ac6f1ac3", func := "loop.example/g03209/laws.FnExactLyndonParts", spec := "fnExactLyndonParts", apart := false, narrowed := true }
def FnExactLyndonPartsUptoSaid : Prop := fnExactLyndonPartsUptoRow.holds Try.pinned (OpenSpec.upto fnExactLyndonPartsSpec)

/-- 'laws.FnExactAreConjugate', WHERE WHAT IT READS IS OF BULK AT MOST 1048576: true; the input reads as it did. -/
def fnExactAreConjugateUptoRow : OpenClaim := { program := "ytgfhconcmoepcaa", sum := "08b6fae3bd5f9a4941f8d3d00c44cc61553aaeb1f96521aec691a380ac6f1ac3", func := "loop.example/g03209/laws.FnExactAreConjugate", spec := "fnExactAreConjugate", inPlace := ["internal/bytealg.IndexByteString", "internal/bytealg.IndexString"], named := ["internal/bytealg.MaxLen"], apart := false, narrowed := true }
def FnExactAreConjugateUptoSaid : Prop := fnExactAreConjugateUptoRow.holds Try.pinned (OpenSpec.upto fnExactAreConjugateSpec)

/-- 'laws.FnExactCountLyndon', WHERE WHAT IT READS IS OF BULK AT MOST 1048576: true; the input reads as it did. -/
def fnExactCountLyndonUptoRow : OpenClaim := { program := "ytgfhconcmoepcaa", sum := "08b6fae3bd5f9a4941f8d3d00c44cc61553aaeb1f96521aec691a380ac6f1ac3", func := "loop.example/g03209/laws.FnExactCountLyndon", spec := "fnExactCountLyndon", recurses := true, apart := false, narrowed := true }
def FnExactCountLyndonUptoSaid : Prop := fnExactCountLyndonUptoRow.holds Try.pinned (OpenSpec.upto fnExactCountLyndonSpec)

/-- 'laws.FnExactAllPeriodsFine', WHERE WHAT IT READS IS OF BULK AT MOST 1048576: true; the input reads as it did. -/
def fnExactAllPeriodsFineUptoRow : OpenClaim := { program := "ytgfhconcmoepcaa", sum := "08b6fae3bd5f9a4941f8d3d00c44cc61553aaeb1f96521aec691a380ac6f1ac3", func := "loop.example/g03209/laws.FnExactAllPeriodsFine", spec := "fnExactAllPeriodsFine", unfollowed := true, recurses := true, apart := false, narrowed := true }
def FnExactAllPeriodsFineUptoSaid : Prop := fnExactAllPeriodsFineUptoRow.holds Try.pinned (OpenSpec.upto fnExactAllPeriodsFineSpec)

end Rows
end Go.Proofs.Ytgfhconcmoepcaa
