/-
  The walks of the checks on a setting: l04Ok, ValidSetting (the model's and the program's).
-/
import Derived.Test.YtjegokklmdfflaaNetCode
import Derived.Test.YtjegokklmdfflaaSetMath
namespace Go.Proofs.Ytjegokklmdfflaa
open Go.RowKit

end Go.Proofs.Ytjegokklmdfflaa
