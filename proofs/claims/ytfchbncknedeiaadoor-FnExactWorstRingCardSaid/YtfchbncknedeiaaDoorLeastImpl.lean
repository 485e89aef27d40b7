/-
  The walk of the least distance: the program's leastDistance at texts.
-/
import Derived.Test.YtfchbncknedeiaaDoorLeast
namespace Go.Proofs.YtfchbncknedeiaaDoor
open Go.RowKit

end Go.Proofs.YtfchbncknedeiaaDoor
