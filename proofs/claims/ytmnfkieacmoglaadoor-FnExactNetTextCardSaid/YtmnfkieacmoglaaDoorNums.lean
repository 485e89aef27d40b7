/-
  How an argument that is a slice of numbers reads.
-/
import Derived.Test.YtmnfkieacmoglaaDoorProg
import Derived.Test.YtmnfkieacmoglaaDoorBase
namespace Go.Proofs.YtmnfkieacmoglaaDoor
open Go.RowKit Go.ChangeShapes Go.WideShapes Go.Deep Go.Joins

/-- A value is a slice of numbers: the numbers lie in memory. -/
def NumsIn (w : World) (v : Value) (x : List Int) : Prop :=
  ∃ a n cap, v = .slice a n cap ∧ Hid (x.length = n) ∧ n ≤ maxLen ∧ RI w a x ∧ ∀ k ∈ x, (Lit.int .i64 k).wf = true
end Go.Proofs.YtmnfkieacmoglaaDoor
