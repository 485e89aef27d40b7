/-
  The walk of the law FnExactDecimal: it returns true at every number, where the library's table of the powers of ten holds what the library's text lays.
-/
import Derived.Test.YtemeaeafdhgfaaaDoorDecWalk
import Derived.LaidMore
import Derived.LaidLaws
import Derived.Stop.LaidErr
namespace Go.Proofs.YtemeaeafdhgfaaaDoor
open Go.RowKit Go.ChangeShapes Go.WideShapes
theorem gPow : Tryd.prog.globalNamed "internal/strconv.uint64pow10" = some 1 := by kernel_rfl
theorem gPowType : (Tryd.prog.globals[1]?).map (·.type) = some 153 := by kernel_rfl
theorem powDatum : (Rows.laid_internal_strconv_uint64pow10 : DataW Unit) = Lib.tabData .u64 Lib.pow10Tab := by kernel_rfl
theorem pow_of_laid {W : World} {rest : List (String × DataW Unit)} (h : laidMet Tryd.prog (("internal/strconv.uint64pow10", Rows.laid_internal_strconv_uint64pow10) :: rest) W) : PowTab W.heap.size W := by
  rw [powDatum] at h
  exact Lib.tabBelow_of_tabIs (Lib.tabIs_of_head gPow gPowType Tryd.underlying153 Tryd.underlying107 (by kernel_rfl) (by kernel_rfl) h)
namespace fnExactDecimal
theorem walk {w : World} (n : Int) (wn : (Lit.int .i64 n).wf = true) (hL : laidMetH Tryd.prog Rows.fnExactDecimalRow.laid w) :
    Calls Tryd.prog 4 #[.int .i64 n] w fun e w' => e = .returned (.bool true) ∧ Below w.heap.size w w' := by
  rw [MakeChecks.laidMetH_plain _ _ _ (by kernel_rfl)] at hL
  have ht : PowTab w.heap.size w := pow_of_laid (laidMet.tail (laidMet.tail hL))
  have hn := bounds_i64 wn
  obtain ⟨h0, h1⟩ := hn
  go_enter Tryd.func4, Tryd.ntmps4
  go_wp2_with (first | (go_at_call 11; refine (specDecimal_any n h0 h1 _).mono ?_; rintro e w1 ⟨rfl, hb1⟩) | (go_at_call 12; refine (implDecimal_any n h0 h1 _ (ht.on hb1)).mono ?_; rintro e w2 ⟨rfl, hb2⟩))
  go_ret
  exact ⟨rfl, hb1.trans (hb2.mono hb1.size)⟩
end fnExactDecimal
end Go.Proofs.YtemeaeafdhgfaaaDoor
