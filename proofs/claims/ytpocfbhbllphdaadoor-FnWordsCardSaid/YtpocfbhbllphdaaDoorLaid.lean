/- What the rows' lists of variables give the walks: strconv's table of powers of ten. -/
import Derived.Test.YtpocfbhbllphdaaDoorRows
import Derived.Test.YtpocfbhbllphdaaDoorFmtI
import Derived.Stop.LaidErr
namespace Go.Proofs.YtpocfbhbllphdaaDoor
open Go.ChangeShapes Go.WideShapes Go.ChangeAt Go.RowKit

theorem gPowType : (Tryd.prog.globals[3]?).map (·.type) = some 83 := by kernel_rfl
theorem cellsPow : Tryd.prog.cellsOf 83 = 20 := by kernel_rfl
theorem cellsU64 : Tryd.prog.cellsOf 64 = 1 := by kernel_rfl
theorem powData : (Rows.laid_internal_strconv_uint64pow10 : DataW Unit) = Lib.tabData .u64 Lib.pow10Tab := by rfl
theorem tab_of {W : World} {x y : String × DataW Unit} {r : List (String × DataW Unit)} (h : laidMet Tryd.prog (x :: y :: ("internal/strconv.uint64pow10", Rows.laid_internal_strconv_uint64pow10) :: r) W) : Tab W := by
  have h2 := h.tail.tail
  rw [powData] at h2
  exact Lib.tabIs_of_head gPow gPowType Tryd.underlying83 Tryd.underlying64 cellsU64 cellsPow h2
end Go.Proofs.YtpocfbhbllphdaaDoor
