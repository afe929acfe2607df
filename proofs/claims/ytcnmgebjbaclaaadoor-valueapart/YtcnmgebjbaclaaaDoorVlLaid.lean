/-
  The table of the powers of ten, out of the row's own condition.
-/
import Derived.Test.YtcnmgebjbaclaaaDoorVlText
import Derived.Test.YtcnmgebjbaclaaaDoorArgs
import Derived.Stop.LaidErr
namespace Go.Proofs.YtcnmgebjbaclaaaDoor
open Go.ChangeShapes Go.WideShapes Go.ChangeAt Go.RowKit

theorem gPow : Tryd.prog.globalNamed "internal/strconv.uint64pow10" = some 0 := by kernel_rfl
theorem pow10_laid : (Rows.laid_internal_strconv_uint64pow10 : DataW Unit) = Lib.tabData .u64 Lib.pow10Tab := by rfl
set_option maxRecDepth 100000 in
theorem tabw_laid {W : World} (h : laidMetH Tryd.prog Rows.valueRingRow.laid W) : TabW W := by
  rw [MakeChecks.laidMetH_plain _ _ _ (by kernel_rfl)] at h
  have h3 := h.tail.tail
  exact Lib.tabIs_of_head gPow (t := 101) (n := 20) (e := 90) (by kernel_rfl) Tryd.underlying101 Tryd.underlying90 (by kernel_rfl) (by kernel_rfl) (by rw [← pow10_laid]; exact h3)
end Go.Proofs.YtcnmgebjbaclaaaDoor
