/-
  Facts on the program as a whole that every frame of a law's proof uses, by the kernel's own reckoning; no condition.
-/
import Derived.Test.YtiilgeoahpnkpaaRows
import Derived.ProofKit
import Derived.ChangeOld
import Derived.Below
namespace Go.Proofs.Ytiilgeoahpnkpaa
open Go.ChangeShapes Go.WideShapes Go.ChangeAt Go.RowKit
theorem own : ownKnob Try.prog.godebug = none := by kernel_rfl
theorem laidOut : laidOutB Try.prog = true := by kernel_rfl
end Go.Proofs.Ytiilgeoahpnkpaa
