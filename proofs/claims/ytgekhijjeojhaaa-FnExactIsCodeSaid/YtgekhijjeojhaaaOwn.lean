/- Two closed facts on the program that every row asks for. -/
import Derived.Test.YtgekhijjeojhaaaRows
import Derived.Test.YtgekhijjeojhaaaBase
namespace Go.Proofs.Ytgekhijjeojhaaa
theorem ownKnobs : ownKnob Try.prog.godebug = none := by kernel_rfl
theorem laidOut : laidOutB Try.prog = true := by kernel_rfl
end Go.Proofs.Ytgekhijjeojhaaa
