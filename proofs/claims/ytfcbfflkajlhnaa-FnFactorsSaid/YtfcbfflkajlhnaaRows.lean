/-
  No cell of these rows narrows 'for every input' (looked for: loops, veiled, ifaces, maps, wideKeys, modest, calm, conditions, laid).
  DERIVED. THE GIVEN ROWS OF THIS SEAT. 11 by the template 'for every input the law returns true; each argument reads behind the call as it read before'; 0 by the template 'total and deterministic' (their statements: YtfcbfflkajlhnaaTotals.lean).
  GIVEN WITH THE SEED: the statements are not yours to turn. If you find one false, say at which input.
  Laid BY PROGRAM, IN A SANDBOX (cutbox-rows.mjs): the forced cells as the released guide's own fill.sh prints them over the translation e580400bbb3419cf… (all of the seat's roots in one cut). By AI agents, Wed Nov 11 2026. No macro, syntax, notation, axiom, sorry.
-/
import Derived.Test.YtfcbfflkajlhnaaChecked
import GoSem.Claim
import GoSem.ClaimJoined
import GoSem.ClaimMapViews
import Derived.JoinedTies
import Derived.KernelRfl
namespace Go.Proofs.Ytfcbfflkajlhnaa
/- THE CELL 'sum', in the pinned program and in every row, IS THE sha256 OF THE DUMP (.gsa) THAT YtfcbfflkajlhnaaProg.lean LOADS. Nothing in Lean hashes anything: it is a label: what it is worth is what the hold of that sum in a sandbox is worth. -/
noncomputable def Try.pinned : Pinned := { name := "ytfcbfflkajlhnaa", sum := "e580400bbb3419cfda8a5e26832838dcc347dfe97fa0a822f35e3ff8435faa09", checked := Try.checked }
namespace Rows
def none {H : Type} : Left H := { results := [], args := [] }

/-- 'laws.FnTop': WHATEVER THE INPUT: true; the input reads as it did. -/
def fnTopSpec : ChangeSpec := { name := "fnTop", fn := fun _ => fun
  | [d] => { results := [.lit (.bool true)], args := [d] }
  | _ => none }
def fnTopRow : OpenClaim := { program := "ytfcbfflkajlhnaa", sum := "e580400bbb3419cfda8a5e26832838dcc347dfe97fa0a822f35e3ff8435faa09", func := "loop.example/g03209/laws.FnTop", spec := "fnTop", inPlace := ["internal/bytealg.IndexByteString", "internal/bytealg.IndexString"], unfollowed := true, recurses := true, named := ["internal/bytealg.MaxLen"], plainKeys := false, apart := false }
def FnTopSaid : Prop := fnTopRow.holds Try.pinned (OpenSpec.ofChange fnTopSpec)

/-- ITS FALSE NEIGHBOUR: 'it returns false'. Refute it at one input. -/
def fnTopWrong : ChangeSpec := { name := "fnTop", fn := fun _ => fun
  | [d] => { results := [.lit (.bool false)], args := [d] }
  | _ => none }
def FnTopWrongFalsely : Prop := fnTopRow.holds Try.pinned (OpenSpec.ofChange fnTopWrong)

/-- 'laws.FnFactors': WHATEVER THE INPUT: true; the input reads as it did. -/
def fnFactorsSpec : ChangeSpec := { name := "fnFactors", fn := fun _ => fun
  | [d] => { results := [.lit (.bool true)], args := [d] }
  | _ => none }
def fnFactorsRow : OpenClaim := { program := "ytfcbfflkajlhnaa", sum := "e580400bbb3419cfda8a5e26832838dcc347dfe97fa0a822f35e3ff8435faa09", func := "loop.example/g03209/laws.FnFactors", spec := "fnFactors", inPlace := ["internal/bytealg.IndexByteString", "internal/bytealg.IndexString"], recurses := true, named := ["internal/bytealg.MaxLen"], plainKeys := false, apart := false }
def FnFactorsSaid : Prop := fnFactorsRow.holds Try.pinned (OpenSpec.ofChange fnFactorsSpec)

/-- ITS FALSE NEIGHBOUR: 'it returns false'. Refute it at one input. -/
def fnFactorsWrong : ChangeSpec := { name := "fnFactors", fn := fun _ => fun
  | [d] => { results := [.lit (.bool false)], args := [d] }
  | _ => none }
def FnFactorsWrongFalsely : Prop := fnFactorsRow.holds Try.pinned (OpenSpec.ofChange fnFactorsWrong)

/-- 'laws.FnExactFactorsOf': WHATEVER THE INPUT: true; the input reads as it did. -/
def fnExactFactorsOfSpec : ChangeSpec := { name := "fnExactFactorsOf", fn := fun _ => fun
  | [d1, d2] => { results := [.lit (.bool true)], args := [d1, d2] }
  | _ => none }
def fnExactFactorsOfRow : OpenClaim := { program := "ytfcbfflkajlhnaa", sum := "e580400bbb3419cfda8a5e26832838dcc347dfe97fa0a822f35e3ff8435faa09", func := "loop.example/g03209/laws.FnExactFactorsOf", spec := "fnExactFactorsOf", recurses := true, plainKeys := false, apart := false }
def FnExactFactorsOfSaid : Prop := fnExactFactorsOfRow.holds Try.pinned (OpenSpec.ofChange fnExactFactorsOfSpec)

/-- ITS FALSE NEIGHBOUR: 'it returns false'. Refute it at one input. -/
def fnExactFactorsOfWrong : ChangeSpec := { name := "fnExactFactorsOf", fn := fun _ => fun
  | [d1, d2] => { results := [.lit (.bool false)], args := [d1, d2] }
  | _ => none }
def FnExactFactorsOfWrongFalsely : Prop := fnExactFactorsOfRow.holds Try.pinned (OpenSpec.ofChange fnExactFactorsOfWrong)

/-- 'laws.FnExactComplexityOf': WHATEVER THE INPUT: true; the input reads as it did. -/
def fnExactComplexityOfSpec : ChangeSpec := { name := "fnExactComplexityOf", fn := fun _ => fun
  | [d1, d2] => { results := [.lit (.bool true)], args := [d1, d2] }
  | _ => none }
def fnExactComplexityOfRow : OpenClaim := { program := "ytfcbfflkajlhnaa", sum := "e580400bbb3419cfda8a5e26832838dcc347dfe97fa0a822f35e3ff8435faa09", func := "loop.example/g03209/laws.FnExactComplexityOf", spec := "fnExactComplexityOf", plainKeys := false, apart := false }
def FnExactComplexityOfSaid : Prop := fnExactComplexityOfRow.holds Try.pinned (OpenSpec.ofChange fnExactComplexityOfSpec)

/-- ITS FALSE NEIGHBOUR: 'it returns false'. Refute it at one input. -/
def fnExactComplexityOfWrong : ChangeSpec := { name := "fnExactComplexityOf", fn := fun _ => fun
  | [d1, d2] => { results := [.lit (.bool false)], args := [d1, d2] }
  | _ => none }
def FnExactComplexityOfWrongFalsely : Prop := fnExactComplexityOfRow.holds Try.pinned (OpenSpec.ofChange fnExactComplexityOfWrong)

/-- 'laws.FnExactAllFactors': WHATEVER THE INPUT: true; the input reads as it did. -/
def fnExactAllFactorsSpec : ChangeSpec := { name := "fnExactAllFactors", fn := fun _ => fun
  | [d] => { results := [.lit (.bool true)], args := [d] }
  | _ => none }
def fnExactAllFactorsRow : OpenClaim := { program := "ytfcbfflkajlhnaa", sum := "e580400bbb3419cfda8a5e26832838dcc347dfe97fa0a822f35e3ff8435faa09", func := "loop.example/g03209/laws.FnExactAllFactors", spec := "fnExactAllFactors", plainKeys := false, apart := false }
def FnExactAllFactorsSaid : Prop := fnExactAllFactorsRow.holds Try.pinned (OpenSpec.ofChange fnExactAllFactorsSpec)

/-- ITS FALSE NEIGHBOUR: 'it returns false'. Refute it at one input. -/
def fnExactAllFactorsWrong : ChangeSpec := { name := "fnExactAllFactors", fn := fun _ => fun
  | [d] => { results := [.lit (.bool false)], args := [d] }
  | _ => none }
def FnExactAllFactorsWrongFalsely : Prop := fnExactAllFactorsRow.holds Try.pinned (OpenSpec.ofChange fnExactAllFactorsWrong)

/-- 'laws.FnExactFollowersOf': WHATEVER THE INPUT: true; the input reads as it did. -/
def fnExactFollowersOfSpec : ChangeSpec := { name := "fnExactFollowersOf", fn := fun _ => fun
  | [d1, d2] => { results := [.lit (.bool true)], args := [d1, d2] }
  | _ => none }
def fnExactFollowersOfRow : OpenClaim := { program := "ytfcbfflkajlhnaa", sum := "e580400bbb3419cfda8a5e26832838dcc347dfe97fa0a822f35e3ff8435faa09", func := "loop.example/g03209/laws.FnExactFollowersOf", spec := "fnExactFollowersOf", plainKeys := false, apart := false }
def FnExactFollowersOfSaid : Prop := fnExactFollowersOfRow.holds Try.pinned (OpenSpec.ofChange fnExactFollowersOfSpec)

/-- ITS FALSE NEIGHBOUR: 'it returns false'. Refute it at one input. -/
def fnExactFollowersOfWrong : ChangeSpec := { name := "fnExactFollowersOf", fn := fun _ => fun
  | [d1, d2] => { results := [.lit (.bool false)], args := [d1, d2] }
  | _ => none }
def FnExactFollowersOfWrongFalsely : Prop := fnExactFollowersOfRow.holds Try.pinned (OpenSpec.ofChange fnExactFollowersOfWrong)

/-- 'laws.FnExactLeadersOf': WHATEVER THE INPUT: true; the input reads as it did. -/
def fnExactLeadersOfSpec : ChangeSpec := { name := "fnExactLeadersOf", fn := fun _ => fun
  | [d1, d2] => { results := [.lit (.bool true)], args := [d1, d2] }
  | _ => none }
def fnExactLeadersOfRow : OpenClaim := { program := "ytfcbfflkajlhnaa", sum := "e580400bbb3419cfda8a5e26832838dcc347dfe97fa0a822f35e3ff8435faa09", func := "loop.example/g03209/laws.FnExactLeadersOf", spec := "fnExactLeadersOf", plainKeys := false, apart := false }
def FnExactLeadersOfSaid : Prop := fnExactLeadersOfRow.holds Try.pinned (OpenSpec.ofChange fnExactLeadersOfSpec)

/-- ITS FALSE NEIGHBOUR: 'it returns false'. Refute it at one input. -/
def fnExactLeadersOfWrong : ChangeSpec := { name := "fnExactLeadersOf", fn := fun _ => fun
  | [d1, d2] => { results := [.lit (.bool false)], args := [d1, d2] }
  | _ => none }
def FnExactLeadersOfWrongFalsely : Prop := fnExactLeadersOfRow.holds Try.pinned (OpenSpec.ofChange fnExactLeadersOfWrong)

/-- 'laws.FnExactRightSpecial': WHATEVER THE INPUT: true; the input reads as it did. -/
def fnExactRightSpecialSpec : ChangeSpec := { name := "fnExactRightSpecial", fn := fun _ => fun
  | [d1, d2] => { results := [.lit (.bool true)], args := [d1, d2] }
  | _ => none }
def fnExactRightSpecialRow : OpenClaim := { program := "ytfcbfflkajlhnaa", sum := "e580400bbb3419cfda8a5e26832838dcc347dfe97fa0a822f35e3ff8435faa09", func := "loop.example/g03209/laws.FnExactRightSpecial", spec := "fnExactRightSpecial", recurses := true, plainKeys := false, apart := false }
def FnExactRightSpecialSaid : Prop := fnExactRightSpecialRow.holds Try.pinned (OpenSpec.ofChange fnExactRightSpecialSpec)

/-- ITS FALSE NEIGHBOUR: 'it returns false'. Refute it at one input. -/
def fnExactRightSpecialWrong : ChangeSpec := { name := "fnExactRightSpecial", fn := fun _ => fun
  | [d1, d2] => { results := [.lit (.bool false)], args := [d1, d2] }
  | _ => none }
def FnExactRightSpecialWrongFalsely : Prop := fnExactRightSpecialRow.holds Try.pinned (OpenSpec.ofChange fnExactRightSpecialWrong)

/-- 'laws.FnExactLeftSpecial': WHATEVER THE INPUT: true; the input reads as it did. -/
def fnExactLeftSpecialSpec : ChangeSpec := { name := "fnExactLeftSpecial", fn := fun _ => fun
  | [d1, d2] => { results := [.lit (.bool true)], args := [d1, d2] }
  | _ => none }
def fnExactLeftSpecialRow : OpenClaim := { program := "ytfcbfflkajlhnaa", sum := "e580400bbb3419cfda8a5e26832838dcc347dfe97fa0a822f35e3ff8435faa09", func := "loop.example/g03209/laws.FnExactLeftSpecial", spec := "fnExactLeftSpecial", recurses := true, plainKeys := false, apart := false }
def FnExactLeftSpecialSaid : Prop := fnExactLeftSpecialRow.holds Try.pinned (OpenSpec.ofChange fnExactLeftSpecialSpec)

/-- ITS FALSE NEIGHBOUR: 'it returns false'. Refute it at one input. -/
def fnExactLeftSpecialWrong : ChangeSpec := { name := "fnExactLeftSpecial", fn := fun _ => fun
  | [d1, d2] => { results := [.lit (.bool false)], args := [d1, d2] }
  | _ => none }
def FnExactLeftSpecialWrongFalsely : Prop := fnExactLeftSpecialRow.holds Try.pinned (OpenSpec.ofChange fnExactLeftSpecialWrong)

/-- 'laws.FnExactGraphOf': WHATEVER THE INPUT: true; the input reads as it did. -/
def fnExactGraphOfSpec : ChangeSpec := { name := "fnExactGraphOf", fn := fun _ => fun
  | [d1, d2] => { results := [.lit (.bool true)], args := [d1, d2] }
  | _ => none }
def fnExactGraphOfRow : OpenClaim := { program := "ytfcbfflkajlhnaa", sum := "e580400bbb3419cfda8a5e26832838dcc347dfe97fa0a822f35e3ff8435faa09", func := "loop.example/g03209/laws.FnExactGraphOf", spec := "fnExactGraphOf", recurses := true, plainKeys := false, apart := false }
def FnExactGraphOfSaid : Prop := fnExactGraphOfRow.holds Try.pinned (OpenSpec.ofChange fnExactGraphOfSpec)

/-- ITS FALSE NEIGHBOUR: 'it returns false'. Refute it at one input. -/
def fnExactGraphOfWrong : ChangeSpec := { name := "fnExactGraphOf", fn := fun _ => fun
  | [d1, d2] => { results := [.lit (.bool false)], args := [d1, d2] }
  | _ => none }
def FnExactGraphOfWrongFalsely : Prop := fnExactGraphOfRow.holds Try.pinned (OpenSpec.ofChange fnExactGraphOfWrong)

/-- 'laws.FnExactReachOf': WHATEVER THE INPUT: true; the input reads as it did. -/
def fnExactReachOfSpec : ChangeSpec := { name := "fnExactReachOf", fn := fun _ => fun
  | [d1, d2] => { results := [.lit (.bool true)], args := [d1, d2] }
  | _ => none }
def fnExactReachOfRow : OpenClaim := { program := "ytfcbfflkajlhnaa", sum := "e580400bbb3419cfda8a5e26832838dcc347dfe97fa0a822f35e3ff8435faa09", func := "loop.example/g03209/laws.FnExactReachOf", spec := "fnExactReachOf", plainKeys := false, apart := false }
def FnExactReachOfSaid : Prop := fnExactReachOfRow.holds Try.pinned (OpenSpec.ofChange fnExactReachOfSpec)

/-- ITS FALSE NEIGHBOUR: 'it returns false'. Refute it at one input. -/
def fnExactReachOfWrong : ChangeSpec := { name := "fnExactReachOf", fn := fun _ => fun
  | [d1, d2] => { results := [.lit (.bool false)], args := [d1, d2] }
  | _ => none }
def FnExactReachOfWrongFalsely : Prop := fnExactReachOfRow.holds Try.pinned (OpenSpec.ofChange fnExactReachOfWrong)

/- THE SECOND FORM. 'bulk': how many values and letters a reading holds, each counted each time it is reached (what is shared counts as often as it is met; a slice's spare places count too). A statement '..UptoSaid' is the law's where the arguments, and the package variables that the reading takes, are together of bulk at most 1048576: NARROWER than '..Said'. Prove '..Said' where nothing that the law and all that it calls make is longer than what came in: it says more and counts as full. Else prove '..UptoSaid'. A law counts once. -/
mutual
def uptoBulk {H : Type} : DataW H → Nat
  | .lit (.string bytes) => bytes.length + 1
  | .lit _ => 1
  | .nil => 1
  | .ptr d => uptoBulk d + 1
  | .slice elems spare => uptoBulkAll elems + uptoBulkAll spare + 1
  | .agg parts => uptoBulkAll parts + 1
  | .iface _ d => uptoBulk d + 1
  | .map entries => uptoBulkEntries entries + 1
  | .held _ => 1
def uptoBulkAll {H : Type} : List (DataW H) → Nat
  | [] => 0
  | d :: r => uptoBulk d + uptoBulkAll r
def uptoBulkEntries {H : Type} : List (Lit × DataW H) → Nat
  | [] => 0
  | x :: r => uptoBulkEntry x + uptoBulkEntries r
def uptoBulkEntry {H : Type} : Lit × DataW H → Nat
  | (.string bytes, d) => bytes.length + uptoBulk d + 1
  | (_, d) => uptoBulk d + 1
 end
def uptoSmall : (H : Type) → List (DataW H) → Bool := fun _ ds => decide (uptoBulkAll ds ≤ 1048576)
def OpenSpec.upto (s : _root_.Go.ChangeSpec) : _root_.Go.OpenSpec := { _root_.Go.OpenSpec.ofChange s with cond := some uptoSmall }

/-- 'laws.FnTop', WHERE WHAT IT READS IS OF BULK AT MOST 1048576: true; the input reads as it did. -/
def fnTopUptoRow : OpenClaim := { program := "ytfcbfflkajlhnaa", sum := "e580400bbb3419cfda8a5e26832838dcc347dfe97fa0a822f35e3ff8435faa09", func := "loop.example/g03209/laws.FnTop", spec := "fnTop", inPlace := ["internal/bytealg.IndexByteString", "internal/bytealg.IndexString"], unfollowed := true, recurses := true, named := ["internal/bytealg.MaxLen"], plainKeys := false, apart := false, narrowed := true }
def FnTopUptoSaid : Prop := fnTopUptoRow.holds Try.pinned (OpenSpec.upto fnTopSpec)

/-- 'laws.FnFactors', WHERE WHAT IT READS IS OF BULK AT MOST 1048576: true; the input reads as it did. -/
def fnFactorsUptoRow : OpenClaim := { program := "ytfcbfflkajlhnaa", sum := "e580400bbb3419cfda8a5e26832838dcc347dfe97fa0a822f35e3ff8435faa09", func := "loop.example/g03209/laws.FnFactors", spec := "fnFactors", inPlace := ["internal/bytealg.IndexByteString", "internal/bytealg.IndexString"], recurses := true, named := ["internal/bytealg.MaxLen"], plainKeys := false, apart := false, narrowed := true }
def FnFactorsUptoSaid : Prop := fnFactorsUptoRow.holds Try.pinned (OpenSpec.upto fnFactorsSpec)

/-- 'laws.FnExactFactorsOf', WHERE WHAT IT READS IS OF BULK AT MOST 1048576: true; the input reads as it did. -/
def fnExactFactorsOfUptoRow : OpenClaim := { program := "ytfcbfflkajlhnaa", sum := "e580400bbb3419cfda8a5e26832838dcc347dfe97fa0a822f35e3ff8435faa09", func := "loop.example/g03209/laws.FnExactFactorsOf", spec := "fnExactFactorsOf", recurses := true, plainKeys := false, apart := false, narrowed := true }
def FnExactFactorsOfUptoSaid : Prop := fnExactFactorsOfUptoRow.holds Try.pinned (OpenSpec.upto fnExactFactorsOfSpec)

/-- 'laws.FnExactComplexityOf', WHERE WHAT IT READS IS OF BULK AT MOST 1048576: true; the input reads as it did. -/
def fnExactComplexityOfUptoRow : OpenClaim := { program := "ytfcbfflkajlhnaa", sum := "e580400bbb3419cfda8a5e26832838dcc347dfe97fa0a822f35e3ff8435faa09", func := "loop.example/g03209/laws.FnExactComplexityOf", spec := "fnExactComplexityOf", plainKeys := false, apart := false, narrowed := true }
def FnExactComplexityOfUptoSaid : Prop := fnExactComplexityOfUptoRow.holds Try.pinned (OpenSpec.upto fnExactComplexityOfSpec)

/-- 'laws.FnExactAllFactors', WHERE WHAT IT READS IS OF BULK AT MOST 1048576: true; the input reads as it did. -/
def fnExactAllFactorsUptoRow : OpenClaim := { program := "ytfcbfflkajlhnaa", sum := "e580400bbb3419cfda8a5e26832838dcc347dfe97fa0a822f35e3ff8435faa09", func := "loop.example/g03209/laws.FnExactAllFactors", spec := "fnExactAllFactors", plainKeys := false, apart := false, narrowed := true }
def FnExactAllFactorsUptoSaid : Prop := fnExactAllFactorsUptoRow.holds Try.pinned (OpenSpec.upto fnExactAllFactorsSpec)

/-- 'laws.FnExactFollowersOf', WHERE WHAT IT READS IS OF BULK AT MOST 1048576: true; the input reads as it did. -/
def fnExactFollowersOfUptoRow : OpenClaim := { program := "ytfcbfflkajlhnaa", sum := "e580400bbb3419cfda8a5e26832838dcc347dfe97fa0a822f35e3ff8435faa09", func := "loop.example/g03209/laws.FnExactFollowersOf", spec := "fnExactFollowersOf", plainKeys := false, apart := false, narrowed := true }
def FnExactFollowersOfUptoSaid : Prop := fnExactFollowersOfUptoRow.holds Try.pinned (OpenSpec.upto fnExactFollowersOfSpec)

/-- 'laws.FnExactLeadersOf', WHERE WHAT IT READS IS OF BULK AT MOST 1048576: true; the input reads as it did. -/
def fnExactLeadersOfUptoRow : OpenClaim := { program := "ytfcbfflkajlhnaa", sum := "e580400bbb3419cfda8a5e26832838dcc347dfe97fa0a822f35e3ff8435faa09", func := "loop.example/g03209/laws.FnExactLeadersOf", spec := "fnExactLeadersOf", plainKeys := false, apart := false, narrowed := true }
def FnExactLeadersOfUptoSaid : Prop := fnExactLeadersOfUptoRow.holds Try.pinned (OpenSpec.upto fnExactLeadersOfSpec)

/-- 'laws.FnExactRightSpecial', WHERE WHAT IT READS IS OF BULK AT MOST 1048576: true; the input reads as it did. -/
def fnExactRightSpecialUptoRow : OpenClaim := { program := "ytfcbfflkajlhnaa", sum := "e580400bbb3419cfda8a5e26832838dcc347dfe97fa0a822f35e3ff8435faa09", func := "loop.example/g03209/laws.FnExactRightSpecial", spec := "fnExactRightSpecial", recurses := true, plainKeys := false, apart := false, narrowed := true }
def FnExactRightSpecialUptoSaid : Prop := fnExactRightSpecialUptoRow.holds Try.pinned (OpenSpec.upto fnExactRightSpecialSpec)

/-- 'laws.FnExactLeftSpecial', WHERE WHAT IT READS IS OF BULK AT MOST 1048576: true; the input reads as it did. -/
def fnExactLeftSpecialUptoRow : OpenClaim := { program := "ytfcbfflkajlhnaa", sum := "e580400bbb3419cfda8a5e26832838dcc347dfe97fa0a822f35e3ff8435faa09", func := "loop.example/g03209/laws.FnExactLeftSpecial", spec := "fnExactLeftSpecial", recurses := true, plainKeys := false, apart := false, narrowed := true }
def FnExactLeftSpecialUptoSaid : Prop := fnExactLeftSpecialUptoRow.holds Try.pinned (OpenSpec.upto fnExactLeftSpecialSpec)

/-- 'laws.FnExactGraphOf', WHERE WHAT IT READS IS OF BULK AT MOST 1048576: true; the input reads as it did. -/
def fnExactGraphOfUptoRow : OpenClaim := { program := "ytfcbfflkajlhnaa", sum := "e580400bbb3419cfda8a5e26832838dcc347dfe97fa0a822f35e3ff8435faa09", func := "loop.example/g03209/laws.FnExactGraphOf", spec := "fnExactGraphOf", recurses := true, plainKeys := false, apart := false, narrowed := true }
def FnExactGraphOfUptoSaid : Prop := fnExactGraphOfUptoRow.holds Try.pinned (OpenSpec.upto fnExactGraphOfSpec)

/-- 'laws.FnExactReachOf', WHERE WHAT IT READS IS OF BULK AT MOST 1048576: true; the input reads as it did. -/
def fnExactReachOfUptoRow : OpenClaim := { program := "ytfcbfflkajlhnaa", sum := "e580400bbb3419cfda8a5e26832838dcc347dfe97fa0a822f35e3ff8435faa09", func := "loop.example/g03209/laws.FnExactReachOf", spec := "fnExactReachOf", plainKeys := false, apart := false, narrowed := true }
def FnExactReachOfUptoSaid : Prop := fnExactReachOfUptoRow.holds Try.pinned (OpenSpec.upto fnExactReachOfSpec)

end Rows
end Go.Proofs.Ytfcbfflkajlhnaa
