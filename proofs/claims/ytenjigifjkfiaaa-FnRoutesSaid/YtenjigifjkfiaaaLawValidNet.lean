/-
  The walk of the law FnExactValidNet: it returns true at every network.
-/
import Derived.Test.YtenjigifjkfiaaaNetValid
import Derived.Test.YtenjigifjkfiaaaNetOpen
namespace Go.Proofs.Ytenjigifjkfiaaa
open Go.RowKit

/-- The box of a network lies in block 'pb'. -/
def BoxN (w : World) (pb : Nat) (s : Int) (v : Value) : Prop := w.cell? ⟨pb, 0, none⟩ = some (.int .i64 s) ∧ w.cell? ⟨pb, 1, none⟩ = some v
theorem BoxN.below {w w' : World} {pb : Nat} {s : Int} {v : Value} (h : BoxN w pb s v) (hb : Below w.heap.size w w') : BoxN w' pb s v := by
  have hlt := World.block_lt_of_cell? w _ h.1
  exact ⟨(hb.cell (p := ⟨pb, 0, none⟩) hlt).trans h.1, (hb.cell (p := ⟨pb, 1, none⟩) hlt).trans h.2⟩
end Go.Proofs.Ytenjigifjkfiaaa
namespace Go.Proofs.Ytenjigifjkfiaaa.fnExactValidNet
open Go.RowKit
end Go.Proofs.Ytenjigifjkfiaaa.fnExactValidNet
