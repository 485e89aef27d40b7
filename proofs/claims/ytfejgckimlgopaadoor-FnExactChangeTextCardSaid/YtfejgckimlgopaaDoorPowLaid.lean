/-
  The library's table of the powers of ten, as the card's variable lays it.
-/
import Derived.Test.YtfejgckimlgopaaDoorDecWalk
import Derived.LaidMore
import Derived.LaidLaws
import Derived.Stop.LaidErr
namespace Go.Proofs.YtfejgckimlgopaaDoor
open Go.RowKit Go.ChangeShapes Go.WideShapes
theorem gPow : Tryd.prog.globalNamed "internal/strconv.uint64pow10" = some 0 := by kernel_rfl
theorem gPowType : (Tryd.prog.globals[0]?).map (·.type) = some 111 := by kernel_rfl
theorem powDatum : (Rows.laid_internal_strconv_uint64pow10 : DataW Unit) = Lib.tabData .u64 Lib.pow10Tab := by kernel_rfl
theorem pow_of_laid {W : World} {rest : List (String × DataW Unit)} (h : laidMet Tryd.prog (("internal/strconv.uint64pow10", Rows.laid_internal_strconv_uint64pow10) :: rest) W) : PowTab W.heap.size W := by
  rw [powDatum] at h
  exact Lib.tabBelow_of_tabIs (Lib.tabIs_of_head gPow gPowType Tryd.underlying111 Tryd.underlying92 (by kernel_rfl) (by kernel_rfl) h)
end Go.Proofs.YtfejgckimlgopaaDoor
