/-
  The library's table for the first bit of a number, as the card's variable lays it.
-/
import Derived.Test.YtkfeihnapcfkgaaDoorRoomsB
import Derived.LaidMore
import Derived.LaidLaws
import Derived.Stop.LaidErr
import Derived.Lib.LaidTab
import Derived.Test.YtkfeihnapcfkgaaDoorRows
namespace Go.Proofs.YtkfeihnapcfkgaaDoor
open Go.RowKit Go.ChangeShapes Go.WideShapes
theorem gBit : Tryd.prog.globalNamed "math/bits.deBruijn64tab" = some 0 := by kernel_rfl
theorem gBitType : (Tryd.prog.globals[0]?).map (·.type) = some 107 := by kernel_rfl
theorem bitDatum : (Rows.laid_math_bits_deBruijn64tab : DataW Unit) = Lib.tabData .u8 (Lib.deBruijn64tab.map Int.ofNat) := by kernel_rfl
theorem bit_of_laid {W : World} {rest : List (String × DataW Unit)} (h : laidMet Tryd.prog (("math/bits.deBruijn64tab", Rows.laid_math_bits_deBruijn64tab) :: rest) W) : BitTab W := by
  rw [bitDatum] at h
  have ht := Lib.tabIs_of_head gBit gBitType Tryd.underlying107 Tryd.underlying5 (by kernel_rfl) (by kernel_rfl) h
  intro j hj
  have := ht.cell gBit j (by simpa using hj)
  rw [show (Lib.deBruijn64tab.map Int.ofNat).getD j 0 = ((Lib.deBruijn64tab.getD j 0 : Nat) : Int) by
    rw [List.getD_eq_getElem?_getD, List.getD_eq_getElem?_getD, List.getElem?_map, List.getElem?_eq_getElem hj]; rfl] at this
  exact this
end Go.Proofs.YtkfeihnapcfkgaaDoor
