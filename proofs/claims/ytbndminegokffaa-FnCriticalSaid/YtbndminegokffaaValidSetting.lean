/-
  The walks of the checks on a setting: l04Ok, ValidSetting (the model's and the program's).
-/
import Derived.Test.YtbndminegokffaaNetCode
import Derived.Test.YtbndminegokffaaSetMath
namespace Go.Proofs.Ytbndminegokffaa
open Go.RowKit

end Go.Proofs.Ytbndminegokffaa
