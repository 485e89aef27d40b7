/-
  Rows of a law's own, each between two bounds: what keeps them where another one is written.
-/
import Derived.Test.YtenjigifjkfiaaaLawSameNet
import Derived.Test.YtenjigifjkfiaaaMarks
import Derived.Test.YtenjigifjkfiaaaNetMem
namespace Go.Proofs.Ytenjigifjkfiaaa
open Go.RowKit

section
variable {lo hi : Nat} {e : TypeId} {size n : Nat} {v : Value} {xs : List Value} {w w' : World}
theorem BoxN.kept {u : Value} {l h' pb : Nat} {s : Int} {t : Value} (h : BoxN w pb s t) (hg : w.grownBy w' u.ownBlock) (hu : ∀ k, u.ownBlock = some k → l ≤ k ∧ k < h') (hd : pb < l ∨ h' ≤ pb) : BoxN w' pb s t := by
  have hne : some pb ≠ u.ownBlock := fun e => by have := hu pb e.symm; omega
  exact ⟨hg.cell (a := ⟨pb, 0, none⟩) h.1 hne, hg.cell (a := ⟨pb, 1, none⟩) h.2 hne⟩
end
end Go.Proofs.Ytenjigifjkfiaaa
