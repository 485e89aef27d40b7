/-
  The walk of the law FnExactSameNet: it returns true at every two networks.
-/
import Derived.Test.YtenjigifjkfiaaaNetSame
import Derived.Test.YtenjigifjkfiaaaLawValidNet
import Derived.Deep.RegionWith
import Derived.Test.YtenjigifjkfiaaaMem
namespace Go.Proofs.Ytenjigifjkfiaaa
open Go.RowKit
theorem two_boxes {w w' : World} {pb qb : Nat} {s r : Int} {u v : Value} (h : BoxN w pb s u) (k : BoxN w qb r v) (hb : Below w.heap.size w w') :
    w'.cell? ⟨pb, 0, none⟩ = some (.int .i64 s) ∧ w'.cell? ⟨pb, 1, none⟩ = some u ∧ w'.cell? ⟨qb, 0, none⟩ = some (.int .i64 r) ∧ w'.cell? ⟨qb, 1, none⟩ = some v :=
  ⟨(h.below hb).1, (h.below hb).2, (k.below hb).1, (k.below hb).2⟩
end Go.Proofs.Ytenjigifjkfiaaa
namespace Go.Proofs.Ytenjigifjkfiaaa.fnExactSameNet
open Go.RowKit
end Go.Proofs.Ytenjigifjkfiaaa.fnExactSameNet
