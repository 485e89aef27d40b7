/-
  How an argument that is a network (laws.Net), a tube (laws.Tube) or a slice of numbers reads: the shapes that the frames of the laws open.
-/
import Derived.Test.YtbndminegokffaaNetMem
import Derived.Test.YtbndminegokffaaNums
import Derived.Test.YtbndminegokffaaProg
import Derived.ProofKit
import Derived.OpenShut
import Derived.Lib.SmallJoins
import Derived.Deep.Slices
import Derived.Deep.Fields
import Derived.ChangeSame
import Derived.ChangeOld
namespace Go.Proofs.Ytbndminegokffaa
open Go.ChangeShapes Go.WideShapes Go.Deep Go.RowKit Go.Joins

/-- The numbers of a tube fit their kind. -/
def wfT (t : T3) : Prop := (Lit.int .i64 t.1).wf = true ∧ (Lit.int .i64 t.2.1).wf = true ∧ (Lit.int .i64 t.2.2).wf = true
/-- A value is a network of the laws' own: its stations, its tubes in memory. -/
def NetIn (w : World) (v : Value) (x : Int × List T3) : Prop :=
  ∃ a n cap, v = .agg #[.int .i64 x.1, .slice a n cap] ∧ Hid (x.2.length = n) ∧ n ≤ maxLen ∧ RT w a x.2 ∧ (Lit.int .i64 x.1).wf = true ∧ ∀ t ∈ x.2, wfT t

/-- A value is a tube of the laws' own. -/
def TubeIn (v : Value) (t : T3) : Prop := v = .agg #[.int .i64 t.1, .int .i64 t.2.1, .int .i64 t.2.2] ∧ wfT t
end Go.Proofs.Ytbndminegokffaa
