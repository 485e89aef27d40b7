/-
  The walk of the law FnExactSameNet: it returns true at every two networks.
-/
import Derived.Test.YthgkpialiafdnaaNetSame
import Derived.Test.YthgkpialiafdnaaLawValidNet
import Derived.Deep.RegionWith
namespace Go.Proofs.Ythgkpialiafdnaa
open Go.RowKit
theorem two_worlds {a b c : World} (h : Below a.heap.size a b) (k : Below b.heap.size b c) : Below a.heap.size a c := h.trans (k.mono h.size)
theorem two_boxes {w w' : World} {pb qb : Nat} {s r : Int} {u v : Value} (h : BoxN w pb s u) (k : BoxN w qb r v) (hb : Below w.heap.size w w') :
    w'.cell? ⟨pb, 0, none⟩ = some (.int .i64 s) ∧ w'.cell? ⟨pb, 1, none⟩ = some u ∧ w'.cell? ⟨qb, 0, none⟩ = some (.int .i64 r) ∧ w'.cell? ⟨qb, 1, none⟩ = some v :=
  ⟨(h.below hb).1, (h.below hb).2, (k.below hb).1, (k.below hb).2⟩
end Go.Proofs.Ythgkpialiafdnaa
namespace Go.Proofs.Ythgkpialiafdnaa.fnExactSameNet
open Go.RowKit
end Go.Proofs.Ythgkpialiafdnaa.fnExactSameNet
