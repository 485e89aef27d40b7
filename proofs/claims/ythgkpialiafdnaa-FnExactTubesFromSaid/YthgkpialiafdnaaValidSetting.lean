/-
  The walks of the checks on a setting: l04Ok, ValidSetting (the model's and the program's).
-/
import Derived.Test.YthgkpialiafdnaaNetCode
import Derived.Test.YthgkpialiafdnaaSetMath
namespace Go.Proofs.Ythgkpialiafdnaa
open Go.RowKit

end Go.Proofs.Ythgkpialiafdnaa
