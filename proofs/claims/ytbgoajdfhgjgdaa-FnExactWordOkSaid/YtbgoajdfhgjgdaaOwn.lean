/- Two closed facts on the program that every row asks for. -/
import Derived.Test.YtbgoajdfhgjgdaaRows
import Derived.Test.YtbgoajdfhgjgdaaBase
namespace Go.Proofs.Ytbgoajdfhgjgdaa
theorem ownKnobs : ownKnob Try.prog.godebug = none := by kernel_rfl
theorem laidOut : laidOutB Try.prog = true := by kernel_rfl
end Go.Proofs.Ytbgoajdfhgjgdaa
