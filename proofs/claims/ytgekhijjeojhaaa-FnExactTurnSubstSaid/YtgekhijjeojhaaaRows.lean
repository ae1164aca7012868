/-
  No cell of these rows narrows 'for every input' (looked for: loops, veiled, ifaces, maps, wideKeys, modest, calm, conditions, laid).
  DERIVED. THE GIVEN ROWS OF THIS SEAT. 10 by the template 'for every input the law returns true; each argument reads behind the call as it read before'; 0 by the template 'total and deterministic' (their statements: YtgekhijjeojhaaaTotals.lean).
  GIVEN WITH THE SEED: the statements are not yours to turn. If you find one false, say at which input.
  Laid BY PROGRAM, IN A SANDBOX (cutbox-rows.mjs): the forced cells as the released guide's own fill.sh prints them over the translation 9bade88d66bb7e7b… (all of the seat's roots in one cut). By AI agents, Wed Nov 11 2026. No macro, syntax, notation, axiom, sorry.
-/
import Derived.Test.YtgekhijjeojhaaaChecked
import GoSem.Claim
import GoSem.ClaimJoined
import GoSem.ClaimMapViews
import Derived.JoinedTies
import Derived.KernelRfl
namespace Go.Proofs.Ytgekhijjeojhaaa
/- THE CELL 'sum', in the pinned program and in every row, IS THE sha256 OF THE DUMP (.gsa) THAT YtgekhijjeojhaaaProg.lean LOADS. Nothing in Lean hashes anything: it is a label: what it is worth is what the hold of that sum in a sandbox is worth. -/
noncomputable def Try.pinned : Pinned := { name := "ytgekhijjeojhaaa", sum := "9bade88d66bb7e7b50a4a6d6481b9c89b827fe5e82d5b80bdcdcc1d7148f72f8", checked := Try.checked }
namespace Rows
def none {H : Type} : Left H := { results := [], args := [] }

/-- 'laws.FnExactSubstOk': WHATEVER THE INPUT: true; the input reads as it did. -/
def fnExactSubstOkSpec : ChangeSpec := { name := "fnExactSubstOk", fn := fun _ => fun
  | [d] => { results := [.lit (.bool true)], args := [d] }
  | _ => none }
def fnExactSubstOkRow : OpenClaim := { program := "ytgekhijjeojhaaa", sum := "9bade88d66bb7e7b50a4a6d6481b9c89b827fe5e82d5b80bdcdcc1d7148f72f8", func := "loop.example/g03209/laws.FnExactSubstOk", spec := "fnExactSubstOk", apart := false }
def FnExactSubstOkSaid : Prop := fnExactSubstOkRow.holds Try.pinned (OpenSpec.ofChange fnExactSubstOkSpec)

/-- ITS FALSE NEIGHBOUR: 'it returns false'. Refute it at one input. -/
def fnExactSubstOkWrong : ChangeSpec := { name := "fnExactSubstOk", fn := fun _ => fun
  | [d] => { results := [.lit (.bool false)], args := [d] }
  | _ => none }
def FnExactSubstOkWrongFalsely : Prop := fnExactSubstOkRow.holds Try.pinned (OpenSpec.ofChange fnExactSubstOkWrong)

/-- 'laws.FnExactApplySubst': WHATEVER THE INPUT: true; the input reads as it did. -/
def fnExactApplySubstSpec : ChangeSpec := { name := "fnExactApplySubst", fn := fun _ => fun
  | [d1, d2] => { results := [.lit (.bool true)], args := [d1, d2] }
  | _ => none }
def fnExactApplySubstRow : OpenClaim := { program := "ytgekhijjeojhaaa", sum := "9bade88d66bb7e7b50a4a6d6481b9c89b827fe5e82d5b80bdcdcc1d7148f72f8", func := "loop.example/g03209/laws.FnExactApplySubst", spec := "fnExactApplySubst", unfollowed := true, recurses := true, apart := false }
def FnExactApplySubstSaid : Prop := fnExactApplySubstRow.holds Try.pinned (OpenSpec.ofChange fnExactApplySubstSpec)

/-- ITS FALSE NEIGHBOUR: 'it returns false'. Refute it at one input. -/
def fnExactApplySubstWrong : ChangeSpec := { name := "fnExactApplySubst", fn := fun _ => fun
  | [d1, d2] => { results := [.lit (.bool false)], args := [d1, d2] }
  | _ => none }
def FnExactApplySubstWrongFalsely : Prop := fnExactApplySubstRow.holds Try.pinned (OpenSpec.ofChange fnExactApplySubstWrong)

/-- 'laws.FnExactIterateSubst': WHATEVER THE INPUT: true; the input reads as it did. -/
def fnExactIterateSubstSpec : ChangeSpec := { name := "fnExactIterateSubst", fn := fun _ => fun
  | [d1, d2, d3] => { results := [.lit (.bool true)], args := [d1, d2, d3] }
  | _ => none }
def fnExactIterateSubstRow : OpenClaim := { program := "ytgekhijjeojhaaa", sum := "9bade88d66bb7e7b50a4a6d6481b9c89b827fe5e82d5b80bdcdcc1d7148f72f8", func := "loop.example/g03209/laws.FnExactIterateSubst", spec := "fnExactIterateSubst", unfollowed := true, recurses := true, apart := false }
def FnExactIterateSubstSaid : Prop := fnExactIterateSubstRow.holds Try.pinned (OpenSpec.ofChange fnExactIterateSubstSpec)

/-- ITS FALSE NEIGHBOUR: 'it returns false'. Refute it at one input. -/
def fnExactIterateSubstWrong : ChangeSpec := { name := "fnExactIterateSubst", fn := fun _ => fun
  | [d1, d2, d3] => { results := [.lit (.bool false)], args := [d1, d2, d3] }
  | _ => none }
def FnExactIterateSubstWrongFalsely : Prop := fnExactIterateSubstRow.holds Try.pinned (OpenSpec.ofChange fnExactIterateSubstWrong)

/-- 'laws.FnExactComposeSubst': WHATEVER THE INPUT: true; the input reads as it did. -/
def fnExactComposeSubstSpec : ChangeSpec := { name := "fnExactComposeSubst", fn := fun _ => fun
  | [d1, d2] => { results := [.lit (.bool true)], args := [d1, d2] }
  | _ => none }
def fnExactComposeSubstRow : OpenClaim := { program := "ytgekhijjeojhaaa", sum := "9bade88d66bb7e7b50a4a6d6481b9c89b827fe5e82d5b80bdcdcc1d7148f72f8", func := "loop.example/g03209/laws.FnExactComposeSubst", spec := "fnExactComposeSubst", unfollowed := true, recurses := true, apart := false }
def FnExactComposeSubstSaid : Prop := fnExactComposeSubstRow.holds Try.pinned (OpenSpec.ofChange fnExactComposeSubstSpec)

/-- ITS FALSE NEIGHBOUR: 'it returns false'. Refute it at one input. -/
def fnExactComposeSubstWrong : ChangeSpec := { name := "fnExactComposeSubst", fn := fun _ => fun
  | [d1, d2] => { results := [.lit (.bool false)], args := [d1, d2] }
  | _ => none }
def FnExactComposeSubstWrongFalsely : Prop := fnExactComposeSubstRow.holds Try.pinned (OpenSpec.ofChange fnExactComposeSubstWrong)

/-- 'laws.FnExactIsUniform': WHATEVER THE INPUT: true; the input reads as it did. -/
def fnExactIsUniformSpec : ChangeSpec := { name := "fnExactIsUniform", fn := fun _ => fun
  | [d] => { results := [.lit (.bool true)], args := [d] }
  | _ => none }
def fnExactIsUniformRow : OpenClaim := { program := "ytgekhijjeojhaaa", sum := "9bade88d66bb7e7b50a4a6d6481b9c89b827fe5e82d5b80bdcdcc1d7148f72f8", func := "loop.example/g03209/laws.FnExactIsUniform", spec := "fnExactIsUniform", apart := false }
def FnExactIsUniformSaid : Prop := fnExactIsUniformRow.holds Try.pinned (OpenSpec.ofChange fnExactIsUniformSpec)

/-- ITS FALSE NEIGHBOUR: 'it returns false'. Refute it at one input. -/
def fnExactIsUniformWrong : ChangeSpec := { name := "fnExactIsUniform", fn := fun _ => fun
  | [d] => { results := [.lit (.bool false)], args := [d] }
  | _ => none }
def FnExactIsUniformWrongFalsely : Prop := fnExactIsUniformRow.holds Try.pinned (OpenSpec.ofChange fnExactIsUniformWrong)

/-- 'laws.FnExactIsCode': WHATEVER THE INPUT: true; the input reads as it did. -/
def fnExactIsCodeSpec : ChangeSpec := { name := "fnExactIsCode", fn := fun _ => fun
  | [d] => { results := [.lit (.bool true)], args := [d] }
  | _ => none }
def fnExactIsCodeRow : OpenClaim := { program := "ytgekhijjeojhaaa", sum := "9bade88d66bb7e7b50a4a6d6481b9c89b827fe5e82d5b80bdcdcc1d7148f72f8", func := "loop.example/g03209/laws.FnExactIsCode", spec := "fnExactIsCode", apart := false }
def FnExactIsCodeSaid : Prop := fnExactIsCodeRow.holds Try.pinned (OpenSpec.ofChange fnExactIsCodeSpec)

/-- ITS FALSE NEIGHBOUR: 'it returns false'. Refute it at one input. -/
def fnExactIsCodeWrong : ChangeSpec := { name := "fnExactIsCode", fn := fun _ => fun
  | [d] => { results := [.lit (.bool false)], args := [d] }
  | _ => none }
def FnExactIsCodeWrongFalsely : Prop := fnExactIsCodeRow.holds Try.pinned (OpenSpec.ofChange fnExactIsCodeWrong)

/-- 'laws.FnExactTurnSubst': WHATEVER THE INPUT: true; the input reads as it did. -/
def fnExactTurnSubstSpec : ChangeSpec := { name := "fnExactTurnSubst", fn := fun _ => fun
  | [d] => { results := [.lit (.bool true)], args := [d] }
  | _ => none }
def fnExactTurnSubstRow : OpenClaim := { program := "ytgekhijjeojhaaa", sum := "9bade88d66bb7e7b50a4a6d6481b9c89b827fe5e82d5b80bdcdcc1d7148f72f8", func := "loop.example/g03209/laws.FnExactTurnSubst", spec := "fnExactTurnSubst", unfollowed := true, recurses := true, apart := false }
def FnExactTurnSubstSaid : Prop := fnExactTurnSubstRow.holds Try.pinned (OpenSpec.ofChange fnExactTurnSubstSpec)

/-- ITS FALSE NEIGHBOUR: 'it returns false'. Refute it at one input. -/
def fnExactTurnSubstWrong : ChangeSpec := { name := "fnExactTurnSubst", fn := fun _ => fun
  | [d] => { results := [.lit (.bool false)], args := [d] }
  | _ => none }
def FnExactTurnSubstWrongFalsely : Prop := fnExactTurnSubstRow.holds Try.pinned (OpenSpec.ofChange fnExactTurnSubstWrong)

/-- 'laws.FnExactFormatSubst': WHATEVER THE INPUT: true; the input reads as it did. -/
def fnExactFormatSubstSpec : ChangeSpec := { name := "fnExactFormatSubst", fn := fun _ => fun
  | [d] => { results := [.lit (.bool true)], args := [d] }
  | _ => none }
def fnExactFormatSubstRow : OpenClaim := { program := "ytgekhijjeojhaaa", sum := "9bade88d66bb7e7b50a4a6d6481b9c89b827fe5e82d5b80bdcdcc1d7148f72f8", func := "loop.example/g03209/laws.FnExactFormatSubst", spec := "fnExactFormatSubst", inPlace := ["internal/abi.NoEscape", "internal/bytealg.MakeNoZero"], apart := false }
def FnExactFormatSubstSaid : Prop := fnExactFormatSubstRow.holds Try.pinned (OpenSpec.ofChange fnExactFormatSubstSpec)

/-- ITS FALSE NEIGHBOUR: 'it returns false'. Refute it at one input. -/
def fnExactFormatSubstWrong : ChangeSpec := { name := "fnExactFormatSubst", fn := fun _ => fun
  | [d] => { results := [.lit (.bool false)], args := [d] }
  | _ => none }
def FnExactFormatSubstWrongFalsely : Prop := fnExactFormatSubstRow.holds Try.pinned (OpenSpec.ofChange fnExactFormatSubstWrong)

/-- 'laws.FnExactParseSubst': WHATEVER THE INPUT: true; the input reads as it did. -/
def fnExactParseSubstSpec : ChangeSpec := { name := "fnExactParseSubst", fn := fun _ => fun
  | [d] => { results := [.lit (.bool true)], args := [d] }
  | _ => none }
def fnExactParseSubstRow : OpenClaim := { program := "ytgekhijjeojhaaa", sum := "9bade88d66bb7e7b50a4a6d6481b9c89b827fe5e82d5b80bdcdcc1d7148f72f8", func := "loop.example/g03209/laws.FnExactParseSubst", spec := "fnExactParseSubst", inPlace := ["internal/bytealg.IndexByteString"], apart := false }
def FnExactParseSubstSaid : Prop := fnExactParseSubstRow.holds Try.pinned (OpenSpec.ofChange fnExactParseSubstSpec)

/-- ITS FALSE NEIGHBOUR: 'it returns false'. Refute it at one input. -/
def fnExactParseSubstWrong : ChangeSpec := { name := "fnExactParseSubst", fn := fun _ => fun
  | [d] => { results := [.lit (.bool false)], args := [d] }
  | _ => none }
def FnExactParseSubstWrongFalsely : Prop := fnExactParseSubstRow.holds Try.pinned (OpenSpec.ofChange fnExactParseSubstWrong)

/-- 'laws.FnExactNamedSubst': WHATEVER THE INPUT: true; the input reads as it did. -/
def fnExactNamedSubstSpec : ChangeSpec := { name := "fnExactNamedSubst", fn := fun _ => fun
  | [d] => { results := [.lit (.bool true)], args := [d] }
  | _ => none }
def fnExactNamedSubstRow : OpenClaim := { program := "ytgekhijjeojhaaa", sum := "9bade88d66bb7e7b50a4a6d6481b9c89b827fe5e82d5b80bdcdcc1d7148f72f8", func := "loop.example/g03209/laws.FnExactNamedSubst", spec := "fnExactNamedSubst", inPlace := ["internal/bytealg.IndexByteString"], apart := false }
def FnExactNamedSubstSaid : Prop := fnExactNamedSubstRow.holds Try.pinned (OpenSpec.ofChange fnExactNamedSubstSpec)

/-- ITS FALSE NEIGHBOUR: 'it returns false'. Refute it at one input. -/
def fnExactNamedSubstWrong : ChangeSpec := { name := "fnExactNamedSubst", fn := fun _ => fun
  | [d] => { results := [.lit (.bool false)], args := [d] }
  | _ => none }
def FnExactNamedSubstWrongFalsely : Prop := fnExactNamedSubstRow.holds Try.pinned (OpenSpec.ofChange fnExactNamedSubstWrong)

/- THE SECOND FORM. 'bulk': how many values and letters a reading holds, each counted each time it is reached (what is shared counts as often as it is met; a slice's spare places count too). A statement '..UptoSaid' is the law's where the arguments, and the package variables that the reading takes, are together of bulk at most 1048576: NARROWER than '..Said'. Prove '..Said' where nothing that the law and all that it calls make is longer than what came in: it says more and counts as full. Else prove '..UptoSaid'. A law counts once. -/
mutual
def uptoBulk {H : Type} : DataW H → Nat
  | .lit (.string bytes) => bytes.length + 1
  | .lit _ => 1
  | .nil => 1
  | .ptr d => uptoBulk d + 1
  | .slice elems spare => uptoBulkAll elems + uptoBulkAll spare + 1
  | .agg parts => uptoBulkAll parts + 1
  | .iface _ d => uptoBulk d + 1
  | .map entries => uptoBulkEntries entries + 1
  | .held _ => 1
def uptoBulkAll {H : Type} : List (DataW H) → Nat
  | [] => 0
  | d :: r => uptoBulk d + uptoBulkAll r
def uptoBulkEntries {H : Type} : List (Lit × DataW H) → Nat
  | [] => 0
  | x :: r => uptoBulkEntry x + uptoBulkEntries r
def uptoBulkEntry {H : Type} : Lit × DataW H → Nat
  | (.string bytes, d) => bytes.length + uptoBulk d + 1
  | (_, d) => uptoBulk d + 1
 end
def uptoSmall : (H : Type) → List (DataW H) → Bool := fun _ ds => decide (uptoBulkAll ds ≤ 1048576)
def OpenSpec.upto (s : _root_.Go.ChangeSpec) : _root_.Go.OpenSpec := { _root_.Go.OpenSpec.ofChange s with cond := some uptoSmall }

/-- 'laws.FnExactSubstOk', WHERE WHAT IT READS IS OF BULK AT MOST 1048576: true; the input reads as it did. -/
def fnExactSubstOkUptoRow : OpenClaim := { program := "ytgekhijjeojhaaa", sum := "9bade88d66bb7e7b50a4a6d6481b9c89b827fe5e82d5b80bdcdcc1d7148f72f8", func := "loop.example/g03209/laws.FnExactSubstOk", spec := "fnExactSubstOk", apart := false, narrowed := true }
def FnExactSubstOkUptoSaid : Prop := fnExactSubstOkUptoRow.holds Try.pinned (OpenSpec.upto fnExactSubstOkSpec)

/-- 'laws.FnExactApplySubst', WHERE WHAT IT READS IS OF BULK AT MOST 1048576: true; the input reads as it did. -/
def fnExactApplySubstUptoRow : OpenClaim := { program := "ytgekhijjeojhaaa", sum := "9bade88d66bb7e7b50a4a6d6481b9c89b827fe5e82d5b80bdcdcc1d7148f72f8", func := "loop.example/g03209/laws.FnExactApplySubst", spec := "fnExactApplySubst", unfollowed := true, recurses := true, apart := false, narrowed := true }
def FnExactApplySubstUptoSaid : Prop := fnExactApplySubstUptoRow.holds Try.pinned (OpenSpec.upto fnExactApplySubstSpec)

/-- 'laws.FnExactIterateSubst', WHERE WHAT IT READS IS OF BULK AT MOST 1048576: true; the input reads as it did. -/
def fnExactIterateSubstUptoRow : OpenClaim := { program := "ytgekhijjeojhaaa", sum := "9bade88d66bb7e7b50a4a6d6481b9c89b827fe5e82d5b80bdcdcc1d7148f72f8", func := "loop.example/g03209/laws.FnExactIterateSubst", spec := "fnExactIterateSubst", unfollowed := true, recurses := true, apart := false, narrowed := true }
def FnExactIterateSubstUptoSaid : Prop := fnExactIterateSubstUptoRow.holds Try.pinned (OpenSpec.upto fnExactIterateSubstSpec)

/-- 'laws.FnExactComposeSubst', WHERE WHAT IT READS IS OF BULK AT MOST 1048576: true; the input reads as it did. -/
def fnExactComposeSubstUptoRow : OpenClaim := { program := "ytgekhijjeojhaaa", sum := "9bade88d66bb7e7b50a4a6d6481b9c89b827fe5e82d5b80bdcdcc1d7148f72f8", func := "loop.example/g03209/laws.FnExactComposeSubst", spec := "fnExactComposeSubst", unfollowed := true, recurses := true, apart := false, narrowed := true }
def FnExactComposeSubstUptoSaid : Prop := fnExactComposeSubstUptoRow.holds Try.pinned (OpenSpec.upto fnExactComposeSubstSpec)

/-- 'laws.FnExactIsUniform', WHERE WHAT IT READS IS OF BULK AT MOST 1048576: true; the input reads as it did. -/
def fnExactIsUniformUptoRow : OpenClaim := { program := "ytgekhijjeojhaaa", sum := "9bade88d66bb7e7b50a4a6d6481b9c89b827fe5e82d5b80bdcdcc1d7148f72f8", func := "loop.example/g03209/laws.FnExactIsUniform", spec := "fnExactIsUniform", apart := false, narrowed := true }
def FnExactIsUniformUptoSaid : Prop := fnExactIsUniformUptoRow.holds Try.pinned (OpenSpec.upto fnExactIsUniformSpec)

/-- 'laws.FnExactIsCode', WHERE WHAT IT READS IS OF BULK AT MOST 1048576: true; the input reads as it did. -/
def fnExactIsCodeUptoRow : OpenClaim := { program := "ytgekhijjeojhaaa", sum := "9bade88d66bb7e7b50a4a6d6481b9c89b827fe5e82d5b80bdcdcc1d7148f72f8", func := "loop.example/g03209/laws.FnExactIsCode", spec := "fnExactIsCode", apart := false, narrowed := true }
def FnExactIsCodeUptoSaid : Prop := fnExactIsCodeUptoRow.holds Try.pinned (OpenSpec.upto fnExactIsCodeSpec)

/-- 'laws.FnExactTurnSubst', WHERE WHAT IT READS IS OF BULK AT MOST 1048576: true; the input reads as it did. -/
def fnExactTurnSubstUptoRow : OpenClaim := { program := "ytgekhijjeojhaaa", sum := "9bade88d66bb7e7b50a4a6d6481b9c89b827fe5e82d5b80bdcdcc1d7148f72f8", func := "loop.example/g03209/laws.FnExactTurnSubst", spec := "fnExactTurnSubst", unfollowed := true, recurses := true, apart := false, narrowed := true }
def FnExactTurnSubstUptoSaid : Prop := fnExactTurnSubstUptoRow.holds Try.pinned (OpenSpec.upto fnExactTurnSubstSpec)

/-- 'laws.FnExactFormatSubst', WHERE WHAT IT READS IS OF BULK AT MOST 1048576: true; the input reads as it did. -/
def fnExactFormatSubstUptoRow : OpenClaim := { program := "ytgekhijjeojhaaa", sum := "9bade88d66bb7e7b50a4a6d6481b9c89b827fe5e82d5b80bdcdcc1d7148f72f8", func := "loop.example/g03209/laws.FnExactFormatSubst", spec := "fnExactFormatSubst", inPlace := ["internal/abi.NoEscape", "internal/bytealg.MakeNoZero"], apart := false, narrowed := true }
def FnExactFormatSubstUptoSaid : Prop := fnExactFormatSubstUptoRow.holds Try.pinned (OpenSpec.upto fnExactFormatSubstSpec)

/-- 'laws.FnExactParseSubst', WHERE WHAT IT READS IS OF BULK AT MOST 1048576: true; the input reads as it did. -/
def fnExactParseSubstUptoRow : OpenClaim := { program := "ytgekhijjeojhaaa", sum := "9bade88d66bb7e7b50a4a6d6481b9c89b827fe5e82d5b80bdcdcc1d7148f72f8", func := "loop.example/g03209/laws.FnExactParseSubst", spec := "fnExactParseSubst", inPlace := ["internal/bytealg.IndexByteString"], apart := false, narrowed := true }
def FnExactParseSubstUptoSaid : Prop := fnExactParseSubstUptoRow.holds Try.pinned (OpenSpec.upto fnExactParseSubstSpec)

/-- 'laws.FnExactNamedSubst', WHERE WHAT IT READS IS OF BULK AT MOST 1048576: true; the input reads as it did. -/
def fnExactNamedSubstUptoRow : OpenClaim := { program := "ytgekhijjeojhaaa", sum := "9bade88d66bb7e7b50a4a6d6481b9c89b827fe5e82d5b80bdcdcc1d7148f72f8", func := "loop.example/g03209/laws.FnExactNamedSubst", spec := "fnExactNamedSubst", inPlace := ["internal/bytealg.IndexByteString"], apart := false, narrowed := true }
def FnExactNamedSubstUptoSaid : Prop := fnExactNamedSubstUptoRow.holds Try.pinned (OpenSpec.upto fnExactNamedSubstSpec)

end Rows
end Go.Proofs.Ytgekhijjeojhaaa
