/-
  No cell of these rows narrows 'for every input' (looked for: loops, veiled, ifaces, maps, wideKeys, modest, calm, conditions, laid).
  DERIVED. THE GIVEN ROWS OF THIS SEAT. 11 by the template 'for every input the law returns true; each argument reads behind the call as it read before'; 0 by the template 'total and deterministic' (their statements: YtefdciaijjgieaaTotals.lean).
  GIVEN WITH THE SEED: the statements are not yours to turn. If you find one false, say at which input.
  Laid BY PROGRAM, IN A SANDBOX (cutbox-rows.mjs): the forced cells as the released guide's own fill.sh prints them over the translation 56fdf59cc7a247a4… (all of the seat's roots in one cut). By AI agents, Wed Nov 11 2026. No macro, syntax, notation, axiom, sorry.
-/
import Derived.Test.YtefdciaijjgieaaChecked
import GoSem.Claim
import GoSem.ClaimJoined
import GoSem.ClaimMapViews
import Derived.JoinedTies
import Derived.KernelRfl
namespace Go.Proofs.Ytefdciaijjgieaa
/- THE CELL 'sum', in the pinned program and in every row, IS THE sha256 OF THE DUMP (.gsa) THAT YtefdciaijjgieaaProg.lean LOADS. Nothing in Lean hashes anything: it is a label: what it is worth is what the hold of that sum in a sandbox is worth. -/
noncomputable def Try.pinned : Pinned := { name := "ytefdciaijjgieaa", sum := "56fdf59cc7a247a44b5603ae0007a1e02aa238d9ba9b3225bd0b0b0f2dcfcd24", checked := Try.checked }
namespace Rows
def none {H : Type} : Left H := { results := [], args := [] }

/-- 'laws.FnPowers': WHATEVER THE INPUT: true; the input reads as it did. -/
def fnPowersSpec : ChangeSpec := { name := "fnPowers", fn := fun _ => fun
  | [d] => { results := [.lit (.bool true)], args := [d] }
  | _ => none }
def fnPowersRow : OpenClaim := { program := "ytefdciaijjgieaa", sum := "56fdf59cc7a247a44b5603ae0007a1e02aa238d9ba9b3225bd0b0b0f2dcfcd24", func := "loop.example/g03209/laws.FnPowers", spec := "fnPowers", inPlace := ["internal/bytealg.IndexByteString", "internal/bytealg.IndexString"], unfollowed := true, recurses := true, named := ["internal/bytealg.MaxLen"], plainKeys := false, apart := false }
def FnPowersSaid : Prop := fnPowersRow.holds Try.pinned (OpenSpec.ofChange fnPowersSpec)

/-- ITS FALSE NEIGHBOUR: 'it returns false'. Refute it at one input. -/
def fnPowersWrong : ChangeSpec := { name := "fnPowers", fn := fun _ => fun
  | [d] => { results := [.lit (.bool false)], args := [d] }
  | _ => none }
def FnPowersWrongFalsely : Prop := fnPowersRow.holds Try.pinned (OpenSpec.ofChange fnPowersWrong)

/-- 'laws.FnExactSquaresIn': WHATEVER THE INPUT: true; the input reads as it did. -/
def fnExactSquaresInSpec : ChangeSpec := { name := "fnExactSquaresIn", fn := fun _ => fun
  | [d] => { results := [.lit (.bool true)], args := [d] }
  | _ => none }
def fnExactSquaresInRow : OpenClaim := { program := "ytefdciaijjgieaa", sum := "56fdf59cc7a247a44b5603ae0007a1e02aa238d9ba9b3225bd0b0b0f2dcfcd24", func := "loop.example/g03209/laws.FnExactSquaresIn", spec := "fnExactSquaresIn", recurses := true, plainKeys := false, apart := false }
def FnExactSquaresInSaid : Prop := fnExactSquaresInRow.holds Try.pinned (OpenSpec.ofChange fnExactSquaresInSpec)

/-- ITS FALSE NEIGHBOUR: 'it returns false'. Refute it at one input. -/
def fnExactSquaresInWrong : ChangeSpec := { name := "fnExactSquaresIn", fn := fun _ => fun
  | [d] => { results := [.lit (.bool false)], args := [d] }
  | _ => none }
def FnExactSquaresInWrongFalsely : Prop := fnExactSquaresInRow.holds Try.pinned (OpenSpec.ofChange fnExactSquaresInWrong)

/-- 'laws.FnExactIsSquareFree': WHATEVER THE INPUT: true; the input reads as it did. -/
def fnExactIsSquareFreeSpec : ChangeSpec := { name := "fnExactIsSquareFree", fn := fun _ => fun
  | [d] => { results := [.lit (.bool true)], args := [d] }
  | _ => none }
def fnExactIsSquareFreeRow : OpenClaim := { program := "ytefdciaijjgieaa", sum := "56fdf59cc7a247a44b5603ae0007a1e02aa238d9ba9b3225bd0b0b0f2dcfcd24", func := "loop.example/g03209/laws.FnExactIsSquareFree", spec := "fnExactIsSquareFree", plainKeys := false, apart := false }
def FnExactIsSquareFreeSaid : Prop := fnExactIsSquareFreeRow.holds Try.pinned (OpenSpec.ofChange fnExactIsSquareFreeSpec)

/-- ITS FALSE NEIGHBOUR: 'it returns false'. Refute it at one input. -/
def fnExactIsSquareFreeWrong : ChangeSpec := { name := "fnExactIsSquareFree", fn := fun _ => fun
  | [d] => { results := [.lit (.bool false)], args := [d] }
  | _ => none }
def FnExactIsSquareFreeWrongFalsely : Prop := fnExactIsSquareFreeRow.holds Try.pinned (OpenSpec.ofChange fnExactIsSquareFreeWrong)

/-- 'laws.FnExactIsCubeFree': WHATEVER THE INPUT: true; the input reads as it did. -/
def fnExactIsCubeFreeSpec : ChangeSpec := { name := "fnExactIsCubeFree", fn := fun _ => fun
  | [d] => { results := [.lit (.bool true)], args := [d] }
  | _ => none }
def fnExactIsCubeFreeRow : OpenClaim := { program := "ytefdciaijjgieaa", sum := "56fdf59cc7a247a44b5603ae0007a1e02aa238d9ba9b3225bd0b0b0f2dcfcd24", func := "loop.example/g03209/laws.FnExactIsCubeFree", spec := "fnExactIsCubeFree", plainKeys := false, apart := false }
def FnExactIsCubeFreeSaid : Prop := fnExactIsCubeFreeRow.holds Try.pinned (OpenSpec.ofChange fnExactIsCubeFreeSpec)

/-- ITS FALSE NEIGHBOUR: 'it returns false'. Refute it at one input. -/
def fnExactIsCubeFreeWrong : ChangeSpec := { name := "fnExactIsCubeFree", fn := fun _ => fun
  | [d] => { results := [.lit (.bool false)], args := [d] }
  | _ => none }
def FnExactIsCubeFreeWrongFalsely : Prop := fnExactIsCubeFreeRow.holds Try.pinned (OpenSpec.ofChange fnExactIsCubeFreeWrong)

/-- 'laws.FnExactIsOverlapFree': WHATEVER THE INPUT: true; the input reads as it did. -/
def fnExactIsOverlapFreeSpec : ChangeSpec := { name := "fnExactIsOverlapFree", fn := fun _ => fun
  | [d] => { results := [.lit (.bool true)], args := [d] }
  | _ => none }
def fnExactIsOverlapFreeRow : OpenClaim := { program := "ytefdciaijjgieaa", sum := "56fdf59cc7a247a44b5603ae0007a1e02aa238d9ba9b3225bd0b0b0f2dcfcd24", func := "loop.example/g03209/laws.FnExactIsOverlapFree", spec := "fnExactIsOverlapFree", plainKeys := false, apart := false }
def FnExactIsOverlapFreeSaid : Prop := fnExactIsOverlapFreeRow.holds Try.pinned (OpenSpec.ofChange fnExactIsOverlapFreeSpec)

/-- ITS FALSE NEIGHBOUR: 'it returns false'. Refute it at one input. -/
def fnExactIsOverlapFreeWrong : ChangeSpec := { name := "fnExactIsOverlapFree", fn := fun _ => fun
  | [d] => { results := [.lit (.bool false)], args := [d] }
  | _ => none }
def FnExactIsOverlapFreeWrongFalsely : Prop := fnExactIsOverlapFreeRow.holds Try.pinned (OpenSpec.ofChange fnExactIsOverlapFreeWrong)

/-- 'laws.FnExactLeastPeriod': WHATEVER THE INPUT: true; the input reads as it did. -/
def fnExactLeastPeriodSpec : ChangeSpec := { name := "fnExactLeastPeriod", fn := fun _ => fun
  | [d] => { results := [.lit (.bool true)], args := [d] }
  | _ => none }
def fnExactLeastPeriodRow : OpenClaim := { program := "ytefdciaijjgieaa", sum := "56fdf59cc7a247a44b5603ae0007a1e02aa238d9ba9b3225bd0b0b0f2dcfcd24", func := "loop.example/g03209/laws.FnExactLeastPeriod", spec := "fnExactLeastPeriod", plainKeys := false, apart := false }
def FnExactLeastPeriodSaid : Prop := fnExactLeastPeriodRow.holds Try.pinned (OpenSpec.ofChange fnExactLeastPeriodSpec)

/-- ITS FALSE NEIGHBOUR: 'it returns false'. Refute it at one input. -/
def fnExactLeastPeriodWrong : ChangeSpec := { name := "fnExactLeastPeriod", fn := fun _ => fun
  | [d] => { results := [.lit (.bool false)], args := [d] }
  | _ => none }
def FnExactLeastPeriodWrongFalsely : Prop := fnExactLeastPeriodRow.holds Try.pinned (OpenSpec.ofChange fnExactLeastPeriodWrong)

/-- 'laws.FnExactGreatestExponent': WHATEVER THE INPUT: true; the input reads as it did. -/
def fnExactGreatestExponentSpec : ChangeSpec := { name := "fnExactGreatestExponent", fn := fun _ => fun
  | [d] => { results := [.lit (.bool true)], args := [d] }
  | _ => none }
def fnExactGreatestExponentRow : OpenClaim := { program := "ytefdciaijjgieaa", sum := "56fdf59cc7a247a44b5603ae0007a1e02aa238d9ba9b3225bd0b0b0f2dcfcd24", func := "loop.example/g03209/laws.FnExactGreatestExponent", spec := "fnExactGreatestExponent", plainKeys := false, apart := false }
def FnExactGreatestExponentSaid : Prop := fnExactGreatestExponentRow.holds Try.pinned (OpenSpec.ofChange fnExactGreatestExponentSpec)

/-- ITS FALSE NEIGHBOUR: 'it returns false'. Refute it at one input. -/
def fnExactGreatestExponentWrong : ChangeSpec := { name := "fnExactGreatestExponent", fn := fun _ => fun
  | [d] => { results := [.lit (.bool false)], args := [d] }
  | _ => none }
def FnExactGreatestExponentWrongFalsely : Prop := fnExactGreatestExponentRow.holds Try.pinned (OpenSpec.ofChange fnExactGreatestExponentWrong)

/-- 'laws.FnExactLongestRun': WHATEVER THE INPUT: true; the input reads as it did. -/
def fnExactLongestRunSpec : ChangeSpec := { name := "fnExactLongestRun", fn := fun _ => fun
  | [d] => { results := [.lit (.bool true)], args := [d] }
  | _ => none }
def fnExactLongestRunRow : OpenClaim := { program := "ytefdciaijjgieaa", sum := "56fdf59cc7a247a44b5603ae0007a1e02aa238d9ba9b3225bd0b0b0f2dcfcd24", func := "loop.example/g03209/laws.FnExactLongestRun", spec := "fnExactLongestRun", plainKeys := false, apart := false }
def FnExactLongestRunSaid : Prop := fnExactLongestRunRow.holds Try.pinned (OpenSpec.ofChange fnExactLongestRunSpec)

/-- ITS FALSE NEIGHBOUR: 'it returns false'. Refute it at one input. -/
def fnExactLongestRunWrong : ChangeSpec := { name := "fnExactLongestRun", fn := fun _ => fun
  | [d] => { results := [.lit (.bool false)], args := [d] }
  | _ => none }
def FnExactLongestRunWrongFalsely : Prop := fnExactLongestRunRow.holds Try.pinned (OpenSpec.ofChange fnExactLongestRunWrong)

/-- 'laws.FnExactFirstSquare': WHATEVER THE INPUT: true; the input reads as it did. -/
def fnExactFirstSquareSpec : ChangeSpec := { name := "fnExactFirstSquare", fn := fun _ => fun
  | [d] => { results := [.lit (.bool true)], args := [d] }
  | _ => none }
def fnExactFirstSquareRow : OpenClaim := { program := "ytefdciaijjgieaa", sum := "56fdf59cc7a247a44b5603ae0007a1e02aa238d9ba9b3225bd0b0b0f2dcfcd24", func := "loop.example/g03209/laws.FnExactFirstSquare", spec := "fnExactFirstSquare", plainKeys := false, apart := false }
def FnExactFirstSquareSaid : Prop := fnExactFirstSquareRow.holds Try.pinned (OpenSpec.ofChange fnExactFirstSquareSpec)

/-- ITS FALSE NEIGHBOUR: 'it returns false'. Refute it at one input. -/
def fnExactFirstSquareWrong : ChangeSpec := { name := "fnExactFirstSquare", fn := fun _ => fun
  | [d] => { results := [.lit (.bool false)], args := [d] }
  | _ => none }
def FnExactFirstSquareWrongFalsely : Prop := fnExactFirstSquareRow.holds Try.pinned (OpenSpec.ofChange fnExactFirstSquareWrong)

/-- 'laws.FnExactCountSquareFree': WHATEVER THE INPUT: true; the input reads as it did. -/
def fnExactCountSquareFreeSpec : ChangeSpec := { name := "fnExactCountSquareFree", fn := fun _ => fun
  | [d1, d2] => { results := [.lit (.bool true)], args := [d1, d2] }
  | _ => none }
def fnExactCountSquareFreeRow : OpenClaim := { program := "ytefdciaijjgieaa", sum := "56fdf59cc7a247a44b5603ae0007a1e02aa238d9ba9b3225bd0b0b0f2dcfcd24", func := "loop.example/g03209/laws.FnExactCountSquareFree", spec := "fnExactCountSquareFree", recurses := true, plainKeys := false, apart := false }
def FnExactCountSquareFreeSaid : Prop := fnExactCountSquareFreeRow.holds Try.pinned (OpenSpec.ofChange fnExactCountSquareFreeSpec)

/-- ITS FALSE NEIGHBOUR: 'it returns false'. Refute it at one input. -/
def fnExactCountSquareFreeWrong : ChangeSpec := { name := "fnExactCountSquareFree", fn := fun _ => fun
  | [d1, d2] => { results := [.lit (.bool false)], args := [d1, d2] }
  | _ => none }
def FnExactCountSquareFreeWrongFalsely : Prop := fnExactCountSquareFreeRow.holds Try.pinned (OpenSpec.ofChange fnExactCountSquareFreeWrong)

/-- 'laws.FnExactExtendSquareFree': WHATEVER THE INPUT: true; the input reads as it did. -/
def fnExactExtendSquareFreeSpec : ChangeSpec := { name := "fnExactExtendSquareFree", fn := fun _ => fun
  | [d] => { results := [.lit (.bool true)], args := [d] }
  | _ => none }
def fnExactExtendSquareFreeRow : OpenClaim := { program := "ytefdciaijjgieaa", sum := "56fdf59cc7a247a44b5603ae0007a1e02aa238d9ba9b3225bd0b0b0f2dcfcd24", func := "loop.example/g03209/laws.FnExactExtendSquareFree", spec := "fnExactExtendSquareFree", plainKeys := false, apart := false }
def FnExactExtendSquareFreeSaid : Prop := fnExactExtendSquareFreeRow.holds Try.pinned (OpenSpec.ofChange fnExactExtendSquareFreeSpec)

/-- ITS FALSE NEIGHBOUR: 'it returns false'. Refute it at one input. -/
def fnExactExtendSquareFreeWrong : ChangeSpec := { name := "fnExactExtendSquareFree", fn := fun _ => fun
  | [d] => { results := [.lit (.bool false)], args := [d] }
  | _ => none }
def FnExactExtendSquareFreeWrongFalsely : Prop := fnExactExtendSquareFreeRow.holds Try.pinned (OpenSpec.ofChange fnExactExtendSquareFreeWrong)

/- THE SECOND FORM. 'bulk': how many values and letters a reading holds, each counted each time it is reached (what is shared counts as often as it is met; a slice's spare places count too). A statement '..UptoSaid' is the law's where the arguments, and the package variables that the reading takes, are together of bulk at most 1048576: NARROWER than '..Said'. Prove '..Said' where nothing that the law and all that it calls make is longer than what came in: it says more and counts as full. Else prove '..UptoSaid'. A law counts once. -/
mutual
def uptoBulk {H : Type} : DataW H → Nat
  | .lit (.string bytes) => bytes.length + 1
  | .lit _ => 1
  | .nil => 1
  | .ptr d => uptoBulk d + 1
  | .slice elems spare => uptoBulkAll elems + uptoBulkAll spare + 1
  | .agg parts => uptoBulkAll parts + 1
  | .iface _ d => uptoBulk d + 1
  | .map entries => uptoBulkEntries entries + 1
  | .held _ => 1
def uptoBulkAll {H : Type} : List (DataW H) → Nat
  | [] => 0
  | d :: r => uptoBulk d + uptoBulkAll r
def uptoBulkEntries {H : Type} : List (Lit × DataW H) → Nat
  | [] => 0
  | x :: r => uptoBulkEntry x + uptoBulkEntries r
def uptoBulkEntry {H : Type} : Lit × DataW H → Nat
  | (.string bytes, d) => bytes.length + uptoBulk d + 1
  | (_, d) => uptoBulk d + 1
 end
def uptoSmall : (H : Type) → List (DataW H) → Bool := fun _ ds => decide (uptoBulkAll ds ≤ 1048576)
def OpenSpec.upto (s : _root_.Go.ChangeSpec) : _root_.Go.OpenSpec := { _root_.Go.OpenSpec.ofChange s with cond := some uptoSmall }

/-- 'laws.FnPowers', WHERE WHAT IT READS IS OF BULK AT MOST 1048576: true; the input reads as it did. -/
def fnPowersUptoRow : OpenClaim := { program := "ytefdciaijjgieaa", sum := "56fdf59cc7a247a44b5603ae0007a1e02aa238d9ba9b3225bd0b0b0f2dcfcd24", func := "loop.example/g03209/laws.FnPowers", spec := "fnPowers", inPlace := ["internal/bytealg.IndexByteString", "internal/bytealg.IndexString"], unfollowed := true, recurses := true, named := ["internal/bytealg.MaxLen"], plainKeys := false, apart := false, narrowed := true }
def FnPowersUptoSaid : Prop := fnPowersUptoRow.holds Try.pinned (OpenSpec.upto fnPowersSpec)

/-- 'laws.FnExactSquaresIn', WHERE WHAT IT READS IS OF BULK AT MOST 1048576: true; the input reads as it did. -/
def fnExactSquaresInUptoRow : OpenClaim := { program := "ytefdciaijjgieaa", sum := "56fdf59cc7a247a44b5603ae0007a1e02aa238d9ba9b3225bd0b0b0f2dcfcd24", func := "loop.example/g03209/laws.FnExactSquaresIn", spec := "fnExactSquaresIn", recurses := true, plainKeys := false, apart := false, narrowed := true }
def FnExactSquaresInUptoSaid : Prop := fnExactSquaresInUptoRow.holds Try.pinned (OpenSpec.upto fnExactSquaresInSpec)

/-- 'laws.FnExactIsSquareFree', WHERE WHAT IT READS IS OF BULK AT MOST 1048576: true; the input reads as it did. -/
def fnExactIsSquareFreeUptoRow : OpenClaim := { program := "ytefdciaijjgieaa", sum := "56fdf59cc7a247a44b5603ae0007a1e02aa238d9ba9b3225bd0b0b0f2dcfcd24", func := "loop.example/g03209/laws.FnExactIsSquareFree", spec := "fnExactIsSquareFree", plainKeys := false, apart := false, narrowed := true }
def FnExactIsSquareFreeUptoSaid : Prop := fnExactIsSquareFreeUptoRow.holds Try.pinned (OpenSpec.upto fnExactIsSquareFreeSpec)

/-- 'laws.FnExactIsCubeFree', WHERE WHAT IT READS IS OF BULK AT MOST 1048576: true; the input reads as it did. -/
def fnExactIsCubeFreeUptoRow : OpenClaim := { program := "ytefdciaijjgieaa", sum := "56fdf59cc7a247a44b5603ae0007a1e02aa238d9ba9b3225bd0b0b0f2dcfcd24", func := "loop.example/g03209/laws.FnExactIsCubeFree", spec := "fnExactIsCubeFree", plainKeys := false, apart := false, narrowed := true }
def FnExactIsCubeFreeUptoSaid : Prop := fnExactIsCubeFreeUptoRow.holds Try.pinned (OpenSpec.upto fnExactIsCubeFreeSpec)

/-- 'laws.FnExactIsOverlapFree', WHERE WHAT IT READS IS OF BULK AT MOST 1048576: true; the input reads as it did. -/
def fnExactIsOverlapFreeUptoRow : OpenClaim := { program := "ytefdciaijjgieaa", sum := "56fdf59cc7a247a44b5603ae0007a1e02aa238d9ba9b3225bd0b0b0f2dcfcd24", func := "loop.example/g03209/laws.FnExactIsOverlapFree", spec := "fnExactIsOverlapFree", plainKeys := false, apart := false, narrowed := true }
def FnExactIsOverlapFreeUptoSaid : Prop := fnExactIsOverlapFreeUptoRow.holds Try.pinned (OpenSpec.upto fnExactIsOverlapFreeSpec)

/-- 'laws.FnExactLeastPeriod', WHERE WHAT IT READS IS OF BULK AT MOST 1048576: true; the input reads as it did. -/
def fnExactLeastPeriodUptoRow : OpenClaim := { program := "ytefdciaijjgieaa", sum := "56fdf59cc7a247a44b5603ae0007a1e02aa238d9ba9b3225bd0b0b0f2dcfcd24", func := "loop.example/g03209/laws.FnExactLeastPeriod", spec := "fnExactLeastPeriod", plainKeys := false, apart := false, narrowed := true }
def FnExactLeastPeriodUptoSaid : Prop := fnExactLeastPeriodUptoRow.holds Try.pinned (OpenSpec.upto fnExactLeastPeriodSpec)

/-- 'laws.FnExactGreatestExponent', WHERE WHAT IT READS IS OF BULK AT MOST 1048576: true; the input reads as it did. -/
def fnExactGreatestExponentUptoRow : OpenClaim := { program := "ytefdciaijjgieaa", sum := "56fdf59cc7a247a44b5603ae0007a1e02aa238d9ba9b3225bd0b0b0f2dcfcd24", func := "loop.example/g03209/laws.FnExactGreatestExponent", spec := "fnExactGreatestExponent", plainKeys := false, apart := false, narrowed := true }
def FnExactGreatestExponentUptoSaid : Prop := fnExactGreatestExponentUptoRow.holds Try.pinned (OpenSpec.upto fnExactGreatestExponentSpec)

/-- 'laws.FnExactLongestRun', WHERE WHAT IT READS IS OF BULK AT MOST 1048576: true; the input reads as it did. -/
def fnExactLongestRunUptoRow : OpenClaim := { program := "ytefdciaijjgieaa", sum := "56fdf59cc7a247a44b5603ae0007a1e02aa238d9ba9b3225bd0b0b0f2dcfcd24", func := "loop.example/g03209/laws.FnExactLongestRun", spec := "fnExactLongestRun", plainKeys := false, apart := false, narrowed := true }
def FnExactLongestRunUptoSaid : Prop := fnExactLongestRunUptoRow.holds Try.pinned (OpenSpec.upto fnExactLongestRunSpec)

/-- 'laws.FnExactFirstSquare', WHERE WHAT IT READS IS OF BULK AT MOST 1048576: true; the input reads as it did. -/
def fnExactFirstSquareUptoRow : OpenClaim := { program := "ytefdciaijjgieaa", sum := "56fdf59cc7a247a44b5603ae0007a1e02aa238d9ba9b3225bd0b0b0f2dcfcd24", func := "loop.example/g03209/laws.FnExactFirstSquare", spec := "fnExactFirstSquare", plainKeys := false, apart := false, narrowed := true }
def FnExactFirstSquareUptoSaid : Prop := fnExactFirstSquareUptoRow.holds Try.pinned (OpenSpec.upto fnExactFirstSquareSpec)

/-- 'laws.FnExactCountSquareFree', WHERE WHAT IT READS IS OF BULK AT MOST 1048576: true; the input reads as it did. -/
def fnExactCountSquareFreeUptoRow : OpenClaim := { program := "ytefdciaijjgieaa", sum := "56fdf59cc7a247a44b5603ae0007a1e02aa238d9ba9b3225bd0b0b0f2dcfcd24", func := "loop.example/g03209/laws.FnExactCountSquareFree", spec := "fnExactCountSquareFree", recurses := true, plainKeys := false, apart := false, narrowed := true }
def FnExactCountSquareFreeUptoSaid : Prop := fnExactCountSquareFreeUptoRow.holds Try.pinned (OpenSpec.upto fnExactCountSquareFreeSpec)

/-- 'laws.FnExactExtendSquareFree', WHERE WHAT IT READS IS OF BULK AT MOST 1048576: true; the input reads as it did. -/
def fnExactExtendSquareFreeUptoRow : OpenClaim := { program := "ytefdciaijjgieaa", sum := "56fdf59cc7a247a44b5603ae0007a1e02aa238d9ba9b3225bd0b0b0f2dcfcd24", func := "loop.example/g03209/laws.FnExactExtendSquareFree", spec := "fnExactExtendSquareFree", plainKeys := false, apart := false, narrowed := true }
def FnExactExtendSquareFreeUptoSaid : Prop := fnExactExtendSquareFreeUptoRow.holds Try.pinned (OpenSpec.upto fnExactExtendSquareFreeSpec)

end Rows
end Go.Proofs.Ytefdciaijjgieaa
