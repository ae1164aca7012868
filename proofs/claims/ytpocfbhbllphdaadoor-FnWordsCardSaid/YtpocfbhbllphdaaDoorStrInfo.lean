/- A closed fact on the type string: its zero, its size. -/
import Derived.Test.YtpocfbhbllphdaaDoorChecked
import Derived.Test.YtpocfbhbllphdaaDoorBase
namespace Go.Proofs.YtpocfbhbllphdaaDoor
theorem str_info : (Tryd.prog.info? 9).map (fun i => (i.zero, i.size, i.bytes)) = some (some (.string ⟨#[]⟩), 1, 16) := by kernel_rfl
end Go.Proofs.YtpocfbhbllphdaaDoor
