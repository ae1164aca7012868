/- Two closed facts on the program that every row asks for. -/
import Derived.Test.YtbbcdeknnfghkaaRows
import Derived.Test.YtbbcdeknnfghkaaBase
namespace Go.Proofs.Ytbbcdeknnfghkaa
theorem ownKnobs : ownKnob Try.prog.godebug = none := by kernel_rfl
theorem laidOut : laidOutB Try.prog = true := by kernel_rfl
end Go.Proofs.Ytbbcdeknnfghkaa
