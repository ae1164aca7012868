/-
  No cell of these rows narrows 'for every input' (looked for: loops, veiled, ifaces, maps, wideKeys, modest, calm, conditions, laid).
  DERIVED. THE GIVEN ROWS OF THIS SEAT. 10 by the template 'for every input the law returns true; each argument reads behind the call as it read before'; 0 by the template 'total and deterministic' (their statements: YtiglikdanhfhfaaTotals.lean).
  GIVEN WITH THE SEED: the statements are not yours to turn. If you find one false, say at which input.
  Laid BY PROGRAM, IN A SANDBOX (cutbox-rows.mjs): the forced cells as the released guide's own fill.sh prints them over the translation b857953cf41cf265… (all of the seat's roots in one cut). By AI agents, Wed Nov 11 2026. No macro, syntax, notation, axiom, sorry.
-/
import Derived.Test.YtiglikdanhfhfaaChecked
import GoSem.Claim
import GoSem.ClaimJoined
import GoSem.ClaimMapViews
import Derived.JoinedTies
import Derived.KernelRfl
namespace Go.Proofs.Ytiglikdanhfhfaa
/- THE CELL 'sum', in the pinned program and in every row, IS THE sha256 OF THE DUMP (.gsa) THAT YtiglikdanhfhfaaProg.lean LOADS. Nothing in Lean hashes anything: it is a label: what it is worth is what the hold of that sum in a sandbox is worth. -/
noncomputable def Try.pinned : Pinned := { name := "ytiglikdanhfhfaa", sum := "b857953cf41cf26591d88dc6e5f2597d49805e342c4de1a507d3a117acf9ee33", checked := Try.checked }
namespace Rows
def none {H : Type} : Left H := { results := [], args := [] }

/-- 'laws.FnPalindromes': WHATEVER THE INPUT: true; the input reads as it did. -/
def fnPalindromesSpec : ChangeSpec := { name := "fnPalindromes", fn := fun _ => fun
  | [d] => { results := [.lit (.bool true)], args := [d] }
  | _ => none }
def fnPalindromesRow : OpenClaim := { program := "ytiglikdanhfhfaa", sum := "b857953cf41cf26591d88dc6e5f2597d49805e342c4de1a507d3a117acf9ee33", func := "loop.example/g03209/laws.FnPalindromes", spec := "fnPalindromes", inPlace := ["internal/bytealg.IndexByteString", "internal/bytealg.IndexString"], recurses := true, named := ["internal/bytealg.MaxLen"], plainKeys := false, apart := false }
def FnPalindromesSaid : Prop := fnPalindromesRow.holds Try.pinned (OpenSpec.ofChange fnPalindromesSpec)

/-- ITS FALSE NEIGHBOUR: 'it returns false'. Refute it at one input. -/
def fnPalindromesWrong : ChangeSpec := { name := "fnPalindromes", fn := fun _ => fun
  | [d] => { results := [.lit (.bool false)], args := [d] }
  | _ => none }
def FnPalindromesWrongFalsely : Prop := fnPalindromesRow.holds Try.pinned (OpenSpec.ofChange fnPalindromesWrong)

/-- 'laws.FnExactIsPalindrome': WHATEVER THE INPUT: true; the input reads as it did. -/
def fnExactIsPalindromeSpec : ChangeSpec := { name := "fnExactIsPalindrome", fn := fun _ => fun
  | [d] => { results := [.lit (.bool true)], args := [d] }
  | _ => none }
def fnExactIsPalindromeRow : OpenClaim := { program := "ytiglikdanhfhfaa", sum := "b857953cf41cf26591d88dc6e5f2597d49805e342c4de1a507d3a117acf9ee33", func := "loop.example/g03209/laws.FnExactIsPalindrome", spec := "fnExactIsPalindrome", plainKeys := false, apart := false }
def FnExactIsPalindromeSaid : Prop := fnExactIsPalindromeRow.holds Try.pinned (OpenSpec.ofChange fnExactIsPalindromeSpec)

/-- ITS FALSE NEIGHBOUR: 'it returns false'. Refute it at one input. -/
def fnExactIsPalindromeWrong : ChangeSpec := { name := "fnExactIsPalindrome", fn := fun _ => fun
  | [d] => { results := [.lit (.bool false)], args := [d] }
  | _ => none }
def FnExactIsPalindromeWrongFalsely : Prop := fnExactIsPalindromeRow.holds Try.pinned (OpenSpec.ofChange fnExactIsPalindromeWrong)

/-- 'laws.FnExactPalindromesIn': WHATEVER THE INPUT: true; the input reads as it did. -/
def fnExactPalindromesInSpec : ChangeSpec := { name := "fnExactPalindromesIn", fn := fun _ => fun
  | [d] => { results := [.lit (.bool true)], args := [d] }
  | _ => none }
def fnExactPalindromesInRow : OpenClaim := { program := "ytiglikdanhfhfaa", sum := "b857953cf41cf26591d88dc6e5f2597d49805e342c4de1a507d3a117acf9ee33", func := "loop.example/g03209/laws.FnExactPalindromesIn", spec := "fnExactPalindromesIn", recurses := true, plainKeys := false, apart := false }
def FnExactPalindromesInSaid : Prop := fnExactPalindromesInRow.holds Try.pinned (OpenSpec.ofChange fnExactPalindromesInSpec)

/-- ITS FALSE NEIGHBOUR: 'it returns false'. Refute it at one input. -/
def fnExactPalindromesInWrong : ChangeSpec := { name := "fnExactPalindromesIn", fn := fun _ => fun
  | [d] => { results := [.lit (.bool false)], args := [d] }
  | _ => none }
def FnExactPalindromesInWrongFalsely : Prop := fnExactPalindromesInRow.holds Try.pinned (OpenSpec.ofChange fnExactPalindromesInWrong)

/-- 'laws.FnExactDefectOf': WHATEVER THE INPUT: true; the input reads as it did. -/
def fnExactDefectOfSpec : ChangeSpec := { name := "fnExactDefectOf", fn := fun _ => fun
  | [d] => { results := [.lit (.bool true)], args := [d] }
  | _ => none }
def fnExactDefectOfRow : OpenClaim := { program := "ytiglikdanhfhfaa", sum := "b857953cf41cf26591d88dc6e5f2597d49805e342c4de1a507d3a117acf9ee33", func := "loop.example/g03209/laws.FnExactDefectOf", spec := "fnExactDefectOf", plainKeys := false, apart := false }
def FnExactDefectOfSaid : Prop := fnExactDefectOfRow.holds Try.pinned (OpenSpec.ofChange fnExactDefectOfSpec)

/-- ITS FALSE NEIGHBOUR: 'it returns false'. Refute it at one input. -/
def fnExactDefectOfWrong : ChangeSpec := { name := "fnExactDefectOf", fn := fun _ => fun
  | [d] => { results := [.lit (.bool false)], args := [d] }
  | _ => none }
def FnExactDefectOfWrongFalsely : Prop := fnExactDefectOfRow.holds Try.pinned (OpenSpec.ofChange fnExactDefectOfWrong)

/-- 'laws.FnExactIsRich': WHATEVER THE INPUT: true; the input reads as it did. -/
def fnExactIsRichSpec : ChangeSpec := { name := "fnExactIsRich", fn := fun _ => fun
  | [d] => { results := [.lit (.bool true)], args := [d] }
  | _ => none }
def fnExactIsRichRow : OpenClaim := { program := "ytiglikdanhfhfaa", sum := "b857953cf41cf26591d88dc6e5f2597d49805e342c4de1a507d3a117acf9ee33", func := "loop.example/g03209/laws.FnExactIsRich", spec := "fnExactIsRich", plainKeys := false, apart := false }
def FnExactIsRichSaid : Prop := fnExactIsRichRow.holds Try.pinned (OpenSpec.ofChange fnExactIsRichSpec)

/-- ITS FALSE NEIGHBOUR: 'it returns false'. Refute it at one input. -/
def fnExactIsRichWrong : ChangeSpec := { name := "fnExactIsRich", fn := fun _ => fun
  | [d] => { results := [.lit (.bool false)], args := [d] }
  | _ => none }
def FnExactIsRichWrongFalsely : Prop := fnExactIsRichRow.holds Try.pinned (OpenSpec.ofChange fnExactIsRichWrong)

/-- 'laws.FnExactLongestPalindrome': WHATEVER THE INPUT: true; the input reads as it did. -/
def fnExactLongestPalindromeSpec : ChangeSpec := { name := "fnExactLongestPalindrome", fn := fun _ => fun
  | [d] => { results := [.lit (.bool true)], args := [d] }
  | _ => none }
def fnExactLongestPalindromeRow : OpenClaim := { program := "ytiglikdanhfhfaa", sum := "b857953cf41cf26591d88dc6e5f2597d49805e342c4de1a507d3a117acf9ee33", func := "loop.example/g03209/laws.FnExactLongestPalindrome", spec := "fnExactLongestPalindrome", plainKeys := false, apart := false }
def FnExactLongestPalindromeSaid : Prop := fnExactLongestPalindromeRow.holds Try.pinned (OpenSpec.ofChange fnExactLongestPalindromeSpec)

/-- ITS FALSE NEIGHBOUR: 'it returns false'. Refute it at one input. -/
def fnExactLongestPalindromeWrong : ChangeSpec := { name := "fnExactLongestPalindrome", fn := fun _ => fun
  | [d] => { results := [.lit (.bool false)], args := [d] }
  | _ => none }
def FnExactLongestPalindromeWrongFalsely : Prop := fnExactLongestPalindromeRow.holds Try.pinned (OpenSpec.ofChange fnExactLongestPalindromeWrong)

/-- 'laws.FnExactCloseWord': WHATEVER THE INPUT: true; the input reads as it did. -/
def fnExactCloseWordSpec : ChangeSpec := { name := "fnExactCloseWord", fn := fun _ => fun
  | [d] => { results := [.lit (.bool true)], args := [d] }
  | _ => none }
def fnExactCloseWordRow : OpenClaim := { program := "ytiglikdanhfhfaa", sum := "b857953cf41cf26591d88dc6e5f2597d49805e342c4de1a507d3a117acf9ee33", func := "loop.example/g03209/laws.FnExactCloseWord", spec := "fnExactCloseWord", plainKeys := false, apart := false }
def FnExactCloseWordSaid : Prop := fnExactCloseWordRow.holds Try.pinned (OpenSpec.ofChange fnExactCloseWordSpec)

/-- ITS FALSE NEIGHBOUR: 'it returns false'. Refute it at one input. -/
def fnExactCloseWordWrong : ChangeSpec := { name := "fnExactCloseWord", fn := fun _ => fun
  | [d] => { results := [.lit (.bool false)], args := [d] }
  | _ => none }
def FnExactCloseWordWrongFalsely : Prop := fnExactCloseWordRow.holds Try.pinned (OpenSpec.ofChange fnExactCloseWordWrong)

/-- 'laws.FnExactDirectedWord': WHATEVER THE INPUT: true; the input reads as it did. -/
def fnExactDirectedWordSpec : ChangeSpec := { name := "fnExactDirectedWord", fn := fun _ => fun
  | [d] => { results := [.lit (.bool true)], args := [d] }
  | _ => none }
def fnExactDirectedWordRow : OpenClaim := { program := "ytiglikdanhfhfaa", sum := "b857953cf41cf26591d88dc6e5f2597d49805e342c4de1a507d3a117acf9ee33", func := "loop.example/g03209/laws.FnExactDirectedWord", spec := "fnExactDirectedWord", plainKeys := false, apart := false }
def FnExactDirectedWordSaid : Prop := fnExactDirectedWordRow.holds Try.pinned (OpenSpec.ofChange fnExactDirectedWordSpec)

/-- ITS FALSE NEIGHBOUR: 'it returns false'. Refute it at one input. -/
def fnExactDirectedWordWrong : ChangeSpec := { name := "fnExactDirectedWord", fn := fun _ => fun
  | [d] => { results := [.lit (.bool false)], args := [d] }
  | _ => none }
def FnExactDirectedWordWrongFalsely : Prop := fnExactDirectedWordRow.holds Try.pinned (OpenSpec.ofChange fnExactDirectedWordWrong)

/-- 'laws.FnExactDirectionOf': WHATEVER THE INPUT: true; the input reads as it did. -/
def fnExactDirectionOfSpec : ChangeSpec := { name := "fnExactDirectionOf", fn := fun _ => fun
  | [d] => { results := [.lit (.bool true)], args := [d] }
  | _ => none }
def fnExactDirectionOfRow : OpenClaim := { program := "ytiglikdanhfhfaa", sum := "b857953cf41cf26591d88dc6e5f2597d49805e342c4de1a507d3a117acf9ee33", func := "loop.example/g03209/laws.FnExactDirectionOf", spec := "fnExactDirectionOf", plainKeys := false, apart := false }
def FnExactDirectionOfSaid : Prop := fnExactDirectionOfRow.holds Try.pinned (OpenSpec.ofChange fnExactDirectionOfSpec)

/-- ITS FALSE NEIGHBOUR: 'it returns false'. Refute it at one input. -/
def fnExactDirectionOfWrong : ChangeSpec := { name := "fnExactDirectionOf", fn := fun _ => fun
  | [d] => { results := [.lit (.bool false)], args := [d] }
  | _ => none }
def FnExactDirectionOfWrongFalsely : Prop := fnExactDirectionOfRow.holds Try.pinned (OpenSpec.ofChange fnExactDirectionOfWrong)

/-- 'laws.FnExactIsClosedUnderTurn': WHATEVER THE INPUT: true; the input reads as it did. -/
def fnExactIsClosedUnderTurnSpec : ChangeSpec := { name := "fnExactIsClosedUnderTurn", fn := fun _ => fun
  | [d1, d2] => { results := [.lit (.bool true)], args := [d1, d2] }
  | _ => none }
def fnExactIsClosedUnderTurnRow : OpenClaim := { program := "ytiglikdanhfhfaa", sum := "b857953cf41cf26591d88dc6e5f2597d49805e342c4de1a507d3a117acf9ee33", func := "loop.example/g03209/laws.FnExactIsClosedUnderTurn", spec := "fnExactIsClosedUnderTurn", plainKeys := false, apart := false }
def FnExactIsClosedUnderTurnSaid : Prop := fnExactIsClosedUnderTurnRow.holds Try.pinned (OpenSpec.ofChange fnExactIsClosedUnderTurnSpec)

/-- ITS FALSE NEIGHBOUR: 'it returns false'. Refute it at one input. -/
def fnExactIsClosedUnderTurnWrong : ChangeSpec := { name := "fnExactIsClosedUnderTurn", fn := fun _ => fun
  | [d1, d2] => { results := [.lit (.bool false)], args := [d1, d2] }
  | _ => none }
def FnExactIsClosedUnderTurnWrongFalsely : Prop := fnExactIsClosedUnderTurnRow.holds Try.pinned (OpenSpec.ofChange fnExactIsClosedUnderTurnWrong)

/- THE SECOND FORM. 'bulk': how many values and letters a reading holds, each counted each time it is reached (what is shared counts as often as it is met; a slice's spare places count too). A statement '..UptoSaid' is the law's where the arguments, and the package variables that the reading takes, are together of bulk at most 1048576: NARROWER than '..Said'. Prove '..Said' where nothing that the law and all that it calls make is longer than what came in: it says more and counts as full. Else prove '..UptoSaid'. A law counts once. -/
mutual
def uptoBulk {H : Type} : DataW H → Nat
  | .lit (.string bytes) => bytes.length + 1
  | .lit _ => 1
  | .nil => 1
  | .ptr d => uptoBulk d + 1
  | .slice elems spare => uptoBulkAll elems + uptoBulkAll spare + 1
  | .agg parts => uptoBulkAll parts + 1
  | .iface _ d => uptoBulk d + 1
  | .map entries => uptoBulkEntries entries + 1
  | .held _ => 1
def uptoBulkAll {H : Type} : List (DataW H) → Nat
  | [] => 0
  | d :: r => uptoBulk d + uptoBulkAll r
def uptoBulkEntries {H : Type} : List (Lit × DataW H) → Nat
  | [] => 0
  | x :: r => uptoBulkEntry x + uptoBulkEntries r
def uptoBulkEntry {H : Type} : Lit × DataW H → Nat
  | (.string bytes, d) => bytes.length + uptoBulk d + 1
  | (_, d) => uptoBulk d + 1
 end
def uptoSmall : (H : Type) → List (DataW H) → Bool := fun _ ds => decide (uptoBulkAll ds ≤ 1048576)
def OpenSpec.upto (s : _root_.Go.ChangeSpec) : _root_.Go.OpenSpec := { _root_.Go.OpenSpec.ofChange s with cond := some uptoSmall }

/-- 'laws.FnPalindromes', WHERE WHAT IT READS IS OF BULK AT MOST 1048576: true; the input reads as it did. -/
def fnPalindromesUptoRow : OpenClaim := { program := "ytiglikdanhfhfaa", sum := "b857953cf41cf26591d88dc6e5f2597d49805e342c4de1a507d3a117acf9ee33", func := "loop.example/g03209/laws.FnPalindromes", spec := "fnPalindromes", inPlace := ["internal/bytealg.IndexByteString", "internal/bytealg.IndexString"], recurses := true, named := ["internal/bytealg.MaxLen"], plainKeys := false, apart := false, narrowed := true }
def FnPalindromesUptoSaid : Prop := fnPalindromesUptoRow.holds Try.pinned (OpenSpec.upto fnPalindromesSpec)

/-- 'laws.FnExactIsPalindrome', WHERE WHAT IT READS IS OF BULK AT MOST 1048576: true; the input reads as it did. -/
def fnExactIsPalindromeUptoRow : OpenClaim := { program := "ytiglikdanhfhfaa", sum := "b857953cf41cf26591d88dc6e5f2597d49805e342c4de1a507d3a117acf9ee33", func := "loop.example/g03209/laws.FnExactIsPalindrome", spec := "fnExactIsPalindrome", plainKeys := false, apart := false, narrowed := true }
def FnExactIsPalindromeUptoSaid : Prop := fnExactIsPalindromeUptoRow.holds Try.pinned (OpenSpec.upto fnExactIsPalindromeSpec)

/-- 'laws.FnExactPalindromesIn', WHERE WHAT IT READS IS OF BULK AT MOST 1048576: true; the input reads as it did. -/
def fnExactPalindromesInUptoRow : OpenClaim := { program := "ytiglikdanhfhfaa", sum := "b857953cf41cf26591d88dc6e5f2597d49805e342c4de1a507d3a117acf9ee33", func := "loop.example/g03209/laws.FnExactPalindromesIn", spec := "fnExactPalindromesIn", recurses := true, plainKeys := false, apart := false, narrowed := true }
def FnExactPalindromesInUptoSaid : Prop := fnExactPalindromesInUptoRow.holds Try.pinned (OpenSpec.upto fnExactPalindromesInSpec)

/-- 'laws.FnExactDefectOf', WHERE WHAT IT READS IS OF BULK AT MOST 1048576: true; the input reads as it did. -/
def fnExactDefectOfUptoRow : OpenClaim := { program := "ytiglikdanhfhfaa", sum := "b857953cf41cf26591d88dc6e5f2597d49805e342c4de1a507d3a117acf9ee33", func := "loop.example/g03209/laws.FnExactDefectOf", spec := "fnExactDefectOf", plainKeys := false, apart := false, narrowed := true }
def FnExactDefectOfUptoSaid : Prop := fnExactDefectOfUptoRow.holds Try.pinned (OpenSpec.upto fnExactDefectOfSpec)

/-- 'laws.FnExactIsRich', WHERE WHAT IT READS IS OF BULK AT MOST 1048576: true; the input reads as it did. -/
def fnExactIsRichUptoRow : OpenClaim := { program := "ytiglikdanhfhfaa", sum := "b857953cf41cf26591d88dc6e5f2597d49805e342c4de1a507d3a117acf9ee33", func := "loop.example/g03209/laws.FnExactIsRich", spec := "fnExactIsRich", plainKeys := false, apart := false, narrowed := true }
def FnExactIsRichUptoSaid : Prop := fnExactIsRichUptoRow.holds Try.pinned (OpenSpec.upto fnExactIsRichSpec)

/-- 'laws.FnExactLongestPalindrome', WHERE WHAT IT READS IS OF BULK AT MOST 1048576: true; the input reads as it did. -/
def fnExactLongestPalindromeUptoRow : OpenClaim := { program := "ytiglikdanhfhfaa", sum := "b857953cf41cf26591d88dc6e5f2597d49805e342c4de1a507d3a117acf9ee33", func := "loop.example/g03209/laws.FnExactLongestPalindrome", spec := "fnExactLongestPalindrome", plainKeys := false, apart := false, narrowed := true }
def FnExactLongestPalindromeUptoSaid : Prop := fnExactLongestPalindromeUptoRow.holds Try.pinned (OpenSpec.upto fnExactLongestPalindromeSpec)

/-- 'laws.FnExactCloseWord', WHERE WHAT IT READS IS OF BULK AT MOST 1048576: true; the input reads as it did. -/
def fnExactCloseWordUptoRow : OpenClaim := { program := "ytiglikdanhfhfaa", sum := "b857953cf41cf26591d88dc6e5f2597d49805e342c4de1a507d3a117acf9ee33", func := "loop.example/g03209/laws.FnExactCloseWord", spec := "fnExactCloseWord", plainKeys := false, apart := false, narrowed := true }
def FnExactCloseWordUptoSaid : Prop := fnExactCloseWordUptoRow.holds Try.pinned (OpenSpec.upto fnExactCloseWordSpec)

/-- 'laws.FnExactDirectedWord', WHERE WHAT IT READS IS OF BULK AT MOST 1048576: true; the input reads as it did. -/
def fnExactDirectedWordUptoRow : OpenClaim := { program := "ytiglikdanhfhfaa", sum := "b857953cf41cf26591d88dc6e5f2597d49805e342c4de1a507d3a117acf9ee33", func := "loop.example/g03209/laws.FnExactDirectedWord", spec := "fnExactDirectedWord", plainKeys := false, apart := false, narrowed := true }
def FnExactDirectedWordUptoSaid : Prop := fnExactDirectedWordUptoRow.holds Try.pinned (OpenSpec.upto fnExactDirectedWordSpec)

/-- 'laws.FnExactDirectionOf', WHERE WHAT IT READS IS OF BULK AT MOST 1048576: true; the input reads as it did. -/
def fnExactDirectionOfUptoRow : OpenClaim := { program := "ytiglikdanhfhfaa", sum := "b857953cf41cf26591d88dc6e5f2597d49805e342c4de1a507d3a117acf9ee33", func := "loop.example/g03209/laws.FnExactDirectionOf", spec := "fnExactDirectionOf", plainKeys := false, apart := false, narrowed := true }
def FnExactDirectionOfUptoSaid : Prop := fnExactDirectionOfUptoRow.holds Try.pinned (OpenSpec.upto fnExactDirectionOfSpec)

/-- 'laws.FnExactIsClosedUnderTurn', WHERE WHAT IT READS IS OF BULK AT MOST 1048576: true; the input reads as it did. -/
def fnExactIsClosedUnderTurnUptoRow : OpenClaim := { program := "ytiglikdanhfhfaa", sum := "b857953cf41cf26591d88dc6e5f2597d49805e342c4de1a507d3a117acf9ee33", func := "loop.example/g03209/laws.FnExactIsClosedUnderTurn", spec := "fnExactIsClosedUnderTurn", plainKeys := false, apart := false, narrowed := true }
def FnExactIsClosedUnderTurnUptoSaid : Prop := fnExactIsClosedUnderTurnUptoRow.holds Try.pinned (OpenSpec.upto fnExactIsClosedUnderTurnSpec)

end Rows
end Go.Proofs.Ytiglikdanhfhfaa
