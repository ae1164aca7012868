/- The program's isDigit. No condition. -/
import Derived.Test.YtpocfbhbllphdaaDoorChecked
import Derived.Test.YtpocfbhbllphdaaDoorBase
namespace Go.Proofs.YtpocfbhbllphdaaDoor
open Go.RowKit

theorem isDigit_any (n : Int) (w : World) :
    Calls Tryd.prog 26 #[.int .i32 n] w fun e w' => e = .returned (.bool (decide (48 ≤ n) && decide (n ≤ 57))) ∧ w = w' := by
  by_cases h1 : 48 ≤ n
  · have hd1 : decide ((48 : Int) ≤ n) = true := by simpa using h1
    go_enter Tryd.func26, Tryd.ntmps26
    go_wp2
    go_ret
    exact ⟨ret_bool (by simp [h1]), rfl⟩
  · have hd1 : decide ((48 : Int) ≤ n) = false := by simpa using h1
    go_enter Tryd.func26, Tryd.ntmps26
    go_wp2
    go_ret
    exact ⟨ret_bool (by simp), rfl⟩
end Go.Proofs.YtpocfbhbllphdaaDoor
