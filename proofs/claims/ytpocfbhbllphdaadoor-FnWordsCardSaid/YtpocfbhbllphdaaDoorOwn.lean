/- Two closed facts on the program that every row asks for. -/
import Derived.Test.YtpocfbhbllphdaaDoorRows
import Derived.Test.YtpocfbhbllphdaaDoorBase
namespace Go.Proofs.YtpocfbhbllphdaaDoor
theorem ownKnobs : ownKnob Tryd.prog.godebug = none := by kernel_rfl
theorem laidOut : laidOutB Tryd.prog = true := by kernel_rfl
end Go.Proofs.YtpocfbhbllphdaaDoor
