/- Two closed facts on the program that every row asks for. -/
import Derived.Test.YtgidfainoijcmaaRows
import Derived.Test.YtgidfainoijcmaaBase
namespace Go.Proofs.Ytgidfainoijcmaa
theorem ownKnobs : ownKnob Try.prog.godebug = none := by kernel_rfl
theorem laidOut : laidOutB Try.prog = true := by kernel_rfl
end Go.Proofs.Ytgidfainoijcmaa
