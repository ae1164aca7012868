/-
  No cell of these rows narrows 'for every input' (looked for: loops, veiled, ifaces, maps, wideKeys, modest, calm, conditions, laid).
  DERIVED. THE GIVEN ROWS OF THIS SEAT. 8 by the template 'for every input the law returns true; each argument reads behind the call as it read before'; 0 by the template 'total and deterministic' (their statements: YtnejalefpenbfaaTotals.lean).
  GIVEN WITH THE SEED: the statements are not yours to turn. If you find one false, say at which input.
  Laid BY PROGRAM, IN A SANDBOX (cutbox-rows.mjs): the forced cells as the released guide's own fill.sh prints them over the translation b84a7291fb210192… (all of the seat's roots in one cut). By AI agents, Wed Nov 11 2026. No macro, syntax, notation, axiom, sorry.
-/
import Derived.Test.YtnejalefpenbfaaChecked
import GoSem.Claim
import GoSem.ClaimJoined
import GoSem.ClaimMapViews
import Derived.JoinedTies
import Derived.KernelRfl
namespace Go.Proofs.Ytnejalefpenbfaa
/- THE CELL 'sum', in the pinned program and in every row, IS THE sha256 OF THE DUMP (.gsa) THAT YtnejalefpenbfaaProg.lean LOADS. Nothing in Lean hashes anything: it is a label: what it is worth is what the hold of that sum in a sandbox is worth. -/
noncomputable def Try.pinned : Pinned := { name := "ytnejalefpenbfaa", sum := "b84a7291fb210192633fbce9f67e50e6f26323ef8896f758b2c92b3b6b9849b4", checked := Try.checked }
namespace Rows
def none {H : Type} : Left H := { results := [], args := [] }

/-- 'laws.FnExactIsBinary': WHATEVER THE INPUT: true; the input reads as it did. -/
def fnExactIsBinarySpec : ChangeSpec := { name := "fnExactIsBinary", fn := fun _ => fun
  | [d] => { results := [.lit (.bool true)], args := [d] }
  | _ => none }
def fnExactIsBinaryRow : OpenClaim := { program := "ytnejalefpenbfaa", sum := "b84a7291fb210192633fbce9f67e50e6f26323ef8896f758b2c92b3b6b9849b4", func := "loop.example/g03209/laws.FnExactIsBinary", spec := "fnExactIsBinary", plainKeys := false, apart := false }
def FnExactIsBinarySaid : Prop := fnExactIsBinaryRow.holds Try.pinned (OpenSpec.ofChange fnExactIsBinarySpec)

/-- ITS FALSE NEIGHBOUR: 'it returns false'. Refute it at one input. -/
def fnExactIsBinaryWrong : ChangeSpec := { name := "fnExactIsBinary", fn := fun _ => fun
  | [d] => { results := [.lit (.bool false)], args := [d] }
  | _ => none }
def FnExactIsBinaryWrongFalsely : Prop := fnExactIsBinaryRow.holds Try.pinned (OpenSpec.ofChange fnExactIsBinaryWrong)

/-- 'laws.FnExactSpreadOf': WHATEVER THE INPUT: true; the input reads as it did. -/
def fnExactSpreadOfSpec : ChangeSpec := { name := "fnExactSpreadOf", fn := fun _ => fun
  | [d1, d2] => { results := [.lit (.bool true)], args := [d1, d2] }
  | _ => none }
def fnExactSpreadOfRow : OpenClaim := { program := "ytnejalefpenbfaa", sum := "b84a7291fb210192633fbce9f67e50e6f26323ef8896f758b2c92b3b6b9849b4", func := "loop.example/g03209/laws.FnExactSpreadOf", spec := "fnExactSpreadOf", inPlace := ["internal/bytealg.CountString", "internal/bytealg.IndexByteString", "internal/bytealg.IndexString"], named := ["internal/bytealg.MaxLen"], plainKeys := false, apart := false }
def FnExactSpreadOfSaid : Prop := fnExactSpreadOfRow.holds Try.pinned (OpenSpec.ofChange fnExactSpreadOfSpec)

/-- ITS FALSE NEIGHBOUR: 'it returns false'. Refute it at one input. -/
def fnExactSpreadOfWrong : ChangeSpec := { name := "fnExactSpreadOf", fn := fun _ => fun
  | [d1, d2] => { results := [.lit (.bool false)], args := [d1, d2] }
  | _ => none }
def FnExactSpreadOfWrongFalsely : Prop := fnExactSpreadOfRow.holds Try.pinned (OpenSpec.ofChange fnExactSpreadOfWrong)

/-- 'laws.FnExactIsBalanced': WHATEVER THE INPUT: true; the input reads as it did. -/
def fnExactIsBalancedSpec : ChangeSpec := { name := "fnExactIsBalanced", fn := fun _ => fun
  | [d] => { results := [.lit (.bool true)], args := [d] }
  | _ => none }
def fnExactIsBalancedRow : OpenClaim := { program := "ytnejalefpenbfaa", sum := "b84a7291fb210192633fbce9f67e50e6f26323ef8896f758b2c92b3b6b9849b4", func := "loop.example/g03209/laws.FnExactIsBalanced", spec := "fnExactIsBalanced", inPlace := ["internal/bytealg.CountString", "internal/bytealg.IndexByteString", "internal/bytealg.IndexString"], named := ["internal/bytealg.MaxLen"], plainKeys := false, apart := false }
def FnExactIsBalancedSaid : Prop := fnExactIsBalancedRow.holds Try.pinned (OpenSpec.ofChange fnExactIsBalancedSpec)

/-- ITS FALSE NEIGHBOUR: 'it returns false'. Refute it at one input. -/
def fnExactIsBalancedWrong : ChangeSpec := { name := "fnExactIsBalanced", fn := fun _ => fun
  | [d] => { results := [.lit (.bool false)], args := [d] }
  | _ => none }
def FnExactIsBalancedWrongFalsely : Prop := fnExactIsBalancedRow.holds Try.pinned (OpenSpec.ofChange fnExactIsBalancedWrong)

/-- 'laws.FnExactMechanicalWord': WHATEVER THE INPUT: true; the input reads as it did. -/
def fnExactMechanicalWordSpec : ChangeSpec := { name := "fnExactMechanicalWord", fn := fun _ => fun
  | [d1, d2, d3, d4] => { results := [.lit (.bool true)], args := [d1, d2, d3, d4] }
  | _ => none }
def fnExactMechanicalWordRow : OpenClaim := { program := "ytnejalefpenbfaa", sum := "b84a7291fb210192633fbce9f67e50e6f26323ef8896f758b2c92b3b6b9849b4", func := "loop.example/g03209/laws.FnExactMechanicalWord", spec := "fnExactMechanicalWord", plainKeys := false, apart := false }
def FnExactMechanicalWordSaid : Prop := fnExactMechanicalWordRow.holds Try.pinned (OpenSpec.ofChange fnExactMechanicalWordSpec)

/-- ITS FALSE NEIGHBOUR: 'it returns false'. Refute it at one input. -/
def fnExactMechanicalWordWrong : ChangeSpec := { name := "fnExactMechanicalWord", fn := fun _ => fun
  | [d1, d2, d3, d4] => { results := [.lit (.bool false)], args := [d1, d2, d3, d4] }
  | _ => none }
def FnExactMechanicalWordWrongFalsely : Prop := fnExactMechanicalWordRow.holds Try.pinned (OpenSpec.ofChange fnExactMechanicalWordWrong)

/-- 'laws.FnExactChristoffelWord': WHATEVER THE INPUT: true; the input reads as it did. -/
def fnExactChristoffelWordSpec : ChangeSpec := { name := "fnExactChristoffelWord", fn := fun _ => fun
  | [d1, d2] => { results := [.lit (.bool true)], args := [d1, d2] }
  | _ => none }
def fnExactChristoffelWordRow : OpenClaim := { program := "ytnejalefpenbfaa", sum := "b84a7291fb210192633fbce9f67e50e6f26323ef8896f758b2c92b3b6b9849b4", func := "loop.example/g03209/laws.FnExactChristoffelWord", spec := "fnExactChristoffelWord", plainKeys := false, apart := false }
def FnExactChristoffelWordSaid : Prop := fnExactChristoffelWordRow.holds Try.pinned (OpenSpec.ofChange fnExactChristoffelWordSpec)

/-- ITS FALSE NEIGHBOUR: 'it returns false'. Refute it at one input. -/
def fnExactChristoffelWordWrong : ChangeSpec := { name := "fnExactChristoffelWord", fn := fun _ => fun
  | [d1, d2] => { results := [.lit (.bool false)], args := [d1, d2] }
  | _ => none }
def FnExactChristoffelWordWrongFalsely : Prop := fnExactChristoffelWordRow.holds Try.pinned (OpenSpec.ofChange fnExactChristoffelWordWrong)

/-- 'laws.FnExactSlopesOf': WHATEVER THE INPUT: true; the input reads as it did. -/
def fnExactSlopesOfSpec : ChangeSpec := { name := "fnExactSlopesOf", fn := fun _ => fun
  | [d] => { results := [.lit (.bool true)], args := [d] }
  | _ => none }
def fnExactSlopesOfRow : OpenClaim := { program := "ytnejalefpenbfaa", sum := "b84a7291fb210192633fbce9f67e50e6f26323ef8896f758b2c92b3b6b9849b4", func := "loop.example/g03209/laws.FnExactSlopesOf", spec := "fnExactSlopesOf", inPlace := ["internal/bytealg.CountString", "internal/bytealg.IndexByteString", "internal/bytealg.IndexString"], unfollowed := true, recurses := true, named := ["internal/bytealg.MaxLen"], plainKeys := false, apart := false }
def FnExactSlopesOfSaid : Prop := fnExactSlopesOfRow.holds Try.pinned (OpenSpec.ofChange fnExactSlopesOfSpec)

/-- ITS FALSE NEIGHBOUR: 'it returns false'. Refute it at one input. -/
def fnExactSlopesOfWrong : ChangeSpec := { name := "fnExactSlopesOf", fn := fun _ => fun
  | [d] => { results := [.lit (.bool false)], args := [d] }
  | _ => none }
def FnExactSlopesOfWrongFalsely : Prop := fnExactSlopesOfRow.holds Try.pinned (OpenSpec.ofChange fnExactSlopesOfWrong)

/-- 'laws.FnExactCountBalanced': WHATEVER THE INPUT: true; the input reads as it did. -/
def fnExactCountBalancedSpec : ChangeSpec := { name := "fnExactCountBalanced", fn := fun _ => fun
  | [d] => { results := [.lit (.bool true)], args := [d] }
  | _ => none }
def fnExactCountBalancedRow : OpenClaim := { program := "ytnejalefpenbfaa", sum := "b84a7291fb210192633fbce9f67e50e6f26323ef8896f758b2c92b3b6b9849b4", func := "loop.example/g03209/laws.FnExactCountBalanced", spec := "fnExactCountBalanced", plainKeys := false, apart := false }
def FnExactCountBalancedSaid : Prop := fnExactCountBalancedRow.holds Try.pinned (OpenSpec.ofChange fnExactCountBalancedSpec)

/-- ITS FALSE NEIGHBOUR: 'it returns false'. Refute it at one input. -/
def fnExactCountBalancedWrong : ChangeSpec := { name := "fnExactCountBalanced", fn := fun _ => fun
  | [d] => { results := [.lit (.bool false)], args := [d] }
  | _ => none }
def FnExactCountBalancedWrongFalsely : Prop := fnExactCountBalancedRow.holds Try.pinned (OpenSpec.ofChange fnExactCountBalancedWrong)

/-- 'laws.FnExactFirstUnbalance': WHATEVER THE INPUT: true; the input reads as it did. -/
def fnExactFirstUnbalanceSpec : ChangeSpec := { name := "fnExactFirstUnbalance", fn := fun _ => fun
  | [d] => { results := [.lit (.bool true)], args := [d] }
  | _ => none }
def fnExactFirstUnbalanceRow : OpenClaim := { program := "ytnejalefpenbfaa", sum := "b84a7291fb210192633fbce9f67e50e6f26323ef8896f758b2c92b3b6b9849b4", func := "loop.example/g03209/laws.FnExactFirstUnbalance", spec := "fnExactFirstUnbalance", inPlace := ["internal/bytealg.CountString", "internal/bytealg.IndexByteString", "internal/bytealg.IndexString"], recurses := true, named := ["internal/bytealg.MaxLen"], plainKeys := false, apart := false }
def FnExactFirstUnbalanceSaid : Prop := fnExactFirstUnbalanceRow.holds Try.pinned (OpenSpec.ofChange fnExactFirstUnbalanceSpec)

/-- ITS FALSE NEIGHBOUR: 'it returns false'. Refute it at one input. -/
def fnExactFirstUnbalanceWrong : ChangeSpec := { name := "fnExactFirstUnbalance", fn := fun _ => fun
  | [d] => { results := [.lit (.bool false)], args := [d] }
  | _ => none }
def FnExactFirstUnbalanceWrongFalsely : Prop := fnExactFirstUnbalanceRow.holds Try.pinned (OpenSpec.ofChange fnExactFirstUnbalanceWrong)

/- THE SECOND FORM. 'bulk': how many values and letters a reading holds, each counted each time it is reached (what is shared counts as often as it is met; a slice's spare places count too). A statement '..UptoSaid' is the law's where the arguments, and the package variables that the reading takes, are together of bulk at most 1048576: NARROWER than '..Said'. Prove '..Said' where nothing that the law and all that it calls make is longer than what came in: it says more and counts as full. Else prove '..UptoSaid'. A law counts once. -/
mutual
def uptoBulk {H : Type} : DataW H → Nat
  | .lit (.string bytes) => bytes.length + 1
  | .lit _ => 1
  | .nil => 1
  | .ptr d => uptoBulk d + 1
  | .slice elems spare => uptoBulkAll elems + uptoBulkAll spare + 1
  | .agg parts => uptoBulkAll parts + 1
  | .iface _ d => uptoBulk d + 1
  | .map entries => uptoBulkEntries entries + 1
  | .held _ => 1
def uptoBulkAll {H : Type} : List (DataW H) → Nat
  | [] => 0
  | d :: r => uptoBulk d + uptoBulkAll r
def uptoBulkEntries {H : Type} : List (Lit × DataW H) → Nat
  | [] => 0
  | x :: r => uptoBulkEntry x + uptoBulkEntries r
def uptoBulkEntry {H : Type} : Lit × DataW H → Nat
  | (.string bytes, d) => bytes.length + uptoBulk d + 1
  | (_, d) => uptoBulk d + 1
 end
def uptoSmall : (H : Type) → List (DataW H) → Bool := fun _ ds => decide (uptoBulkAll ds ≤ 1048576)
def OpenSpec.upto (s : _root_.Go.ChangeSpec) : _root_.Go.OpenSpec := { _root_.Go.OpenSpec.ofChange s with cond := some uptoSmall }

/-- 'laws.FnExactIsBinary', WHERE WHAT IT READS IS OF BULK AT MOST 1048576: true; the input reads as it did. -/
def fnExactIsBinaryUptoRow : OpenClaim := { program := "ytnejalefpenbfaa", sum := "b84a7291fb210192633fbce9f67e50e6f26323ef8896f758b2c92b3b6b9849b4", func := "loop.example/g03209/laws.FnExactIsBinary", spec := "fnExactIsBinary", plainKeys := false, apart := false, narrowed := true }
def FnExactIsBinaryUptoSaid : Prop := fnExactIsBinaryUptoRow.holds Try.pinned (OpenSpec.upto fnExactIsBinarySpec)

/-- 'laws.FnExactSpreadOf', WHERE WHAT IT READS IS OF BULK AT MOST 1048576: true; the input reads as it did. -/
def fnExactSpreadOfUptoRow : OpenClaim := { program := "ytnejalefpenbfaa", sum := "b84a7291fb210192633fbce9f67e50e6f26323ef8896f758b2c92b3b6b9849b4", func := "loop.example/g03209/laws.FnExactSpreadOf", spec := "fnExactSpreadOf", inPlace := ["internal/bytealg.CountString", "internal/bytealg.IndexByteString", "internal/bytealg.IndexString"], named := ["internal/bytealg.MaxLen"], plainKeys := false, apart := false, narrowed := true }
def FnExactSpreadOfUptoSaid : Prop := fnExactSpreadOfUptoRow.holds Try.pinned (OpenSpec.upto fnExactSpreadOfSpec)

/-- 'laws.FnExactIsBalanced', WHERE WHAT IT READS IS OF BULK AT MOST 1048576: true; the input reads as it did. -/
def fnExactIsBalancedUptoRow : OpenClaim := { program := "ytnejalefpenbfaa", sum := "b84a7291fb210192633fbce9f67e50e6f26323ef8896f758b2c92b3b6b9849b4", func := "loop.example/g03209/laws.FnExactIsBalanced", spec := "fnExactIsBalanced", inPlace := ["internal/bytealg.CountString", "internal/bytealg.IndexByteString", "internal/bytealg.IndexString"], named := ["internal/bytealg.MaxLen"], plainKeys := false, apart := false, narrowed := true }
def FnExactIsBalancedUptoSaid : Prop := fnExactIsBalancedUptoRow.holds Try.pinned (OpenSpec.upto fnExactIsBalancedSpec)

/-- 'laws.FnExactMechanicalWord', WHERE WHAT IT READS IS OF BULK AT MOST 1048576: true; the input reads as it did. -/
def fnExactMechanicalWordUptoRow : OpenClaim := { program := "ytnejalefpenbfaa", sum := "b84a7291fb210192633fbce9f67e50e6f26323ef8896f758b2c92b3b6b9849b4", func := "loop.example/g03209/laws.FnExactMechanicalWord", spec := "fnExactMechanicalWord", plainKeys := false, apart := false, narrowed := true }
def FnExactMechanicalWordUptoSaid : Prop := fnExactMechanicalWordUptoRow.holds Try.pinned (OpenSpec.upto fnExactMechanicalWordSpec)

/-- 'laws.FnExactChristoffelWord', WHERE WHAT IT READS IS OF BULK AT MOST 1048576: true; the input reads as it did. -/
def fnExactChristoffelWordUptoRow : OpenClaim := { program := "ytnejalefpenbfaa", sum := "b84a7291fb210192633fbce9f67e50e6f26323ef8896f758b2c92b3b6b9849b4", func := "loop.example/g03209/laws.FnExactChristoffelWord", spec := "fnExactChristoffelWord", plainKeys := false, apart := false, narrowed := true }
def FnExactChristoffelWordUptoSaid : Prop := fnExactChristoffelWordUptoRow.holds Try.pinned (OpenSpec.upto fnExactChristoffelWordSpec)

/-- 'laws.FnExactSlopesOf', WHERE WHAT IT READS IS OF BULK AT MOST 1048576: true; the input reads as it did. -/
def fnExactSlopesOfUptoRow : OpenClaim := { program := "ytnejalefpenbfaa", sum := "b84a7291fb210192633fbce9f67e50e6f26323ef8896f758b2c92b3b6b9849b4", func := "loop.example/g03209/laws.FnExactSlopesOf", spec := "fnExactSlopesOf", inPlace := ["internal/bytealg.CountString", "internal/bytealg.IndexByteString", "internal/bytealg.IndexString"], unfollowed := true, recurses := true, named := ["internal/bytealg.MaxLen"], plainKeys := false, apart := false, narrowed := true }
def FnExactSlopesOfUptoSaid : Prop := fnExactSlopesOfUptoRow.holds Try.pinned (OpenSpec.upto fnExactSlopesOfSpec)

/-- 'laws.FnExactCountBalanced', WHERE WHAT IT READS IS OF BULK AT MOST 1048576: true; the input reads as it did. -/
def fnExactCountBalancedUptoRow : OpenClaim := { program := "ytnejalefpenbfaa", sum := "b84a7291fb210192633fbce9f67e50e6f26323ef8896f758b2c92b3b6b9849b4", func := "loop.example/g03209/laws.FnExactCountBalanced", spec := "fnExactCountBalanced", plainKeys := false, apart := false, narrowed := true }
def FnExactCountBalancedUptoSaid : Prop := fnExactCountBalancedUptoRow.holds Try.pinned (OpenSpec.upto fnExactCountBalancedSpec)

/-- 'laws.FnExactFirstUnbalance', WHERE WHAT IT READS IS OF BULK AT MOST 1048576: true; the input reads as it did. -/
def fnExactFirstUnbalanceUptoRow : OpenClaim := { program := "ytnejalefpenbfaa", sum := "b84a7291fb210192633fbce9f67e50e6f26323ef8896f758b2c92b3b6b9849b4", func := "loop.example/g03209/laws.FnExactFirstUnbalance", spec := "fnExactFirstUnbalance", inPlace := ["internal/bytealg.CountString", "internal/bytealg.IndexByteString", "internal/bytealg.IndexString"], recurses := true, named := ["internal/bytealg.MaxLen"], plainKeys := false, apart := false, narrowed := true }
def FnExactFirstUnbalanceUptoSaid : Prop := fnExactFirstUnbalanceUptoRow.holds Try.pinned (OpenSpec.upto fnExactFirstUnbalanceSpec)

end Rows
end Go.Proofs.Ytnejalefpenbfaa
