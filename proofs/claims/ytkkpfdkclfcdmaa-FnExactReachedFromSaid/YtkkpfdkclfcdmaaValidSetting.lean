/-
  The walks of the checks on a setting: l04Ok, ValidSetting (the model's and the program's).
-/
import Derived.Test.YtkkpfdkclfcdmaaNetCode
import Derived.Test.YtkkpfdkclfcdmaaSetMath
namespace Go.Proofs.Ytkkpfdkclfcdmaa
open Go.RowKit

end Go.Proofs.Ytkkpfdkclfcdmaa
