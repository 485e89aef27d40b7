/-
  The walk of turnsFor: slices.DeleteFunc at needs, and how many are left.
-/
import Derived.Test.YtjegokklmdfflaaSetWayImpl
import Derived.Lib.SliceRun
namespace Go.Proofs.Ytjegokklmdfflaa
open Go.RowKit Go.Shelf Go.Sort

/-- A setting meets a need. -/
def metB (set : List Int) (x : Int × Int) : Bool := setAt set x.1 == x.2
def leftN (set : List Int) (l : List (Int × Int)) : Nat := l.countP fun x => !(metB set x)

theorem need_cells {w : World} {lo g m cap : Nat} {e : TypeId} {l : List (Int × Int)} (hm : l.length = m) (h : w.ownsRow lo e 2 (.slice (some ⟨g, 0, none⟩) m cap) m (flatN l)) :
    ∃ cur, w.heap[g]? = some (.cells cur e (0, 0)) ∧ cur.size = cap * 2 ∧ m ≤ cap ∧ ∀ t (ht : t < l.length), cur[t * 2]? = some (.int .i64 (l[t]).1) ∧ cur[t * 2 + 1]? = some (.int .i64 (l[t]).2) := by
  rcases h.2 with ⟨hv, _⟩ | ⟨g', cap', cur, hv, hlo, hg, h1, h2, h3, ht⟩
  · injection hv with h1; injection h1
  · injection hv with e1 e2 e3
    injection e1 with e1
    injection e1 with e1
    subst e1 e3
    refine ⟨cur, hg, h3, h1, fun t htl => ?_⟩
    have a0 := flatN_at l (t * 2) (by omega)
    have a1 := flatN_at l (t * 2 + 1) (by omega)
    rw [← ht, List.getElem?_take_of_lt (by omega)] at a0 a1
    rw [show t * 2 / 2 = t by omega, show t * 2 % 2 = 0 by omega, getElem!_pos l t htl] at a0
    rw [show (t * 2 + 1) / 2 = t by omega, show (t * 2 + 1) % 2 = 1 by omega, getElem!_pos l t htl] at a1
    exact ⟨by simpa [encN] using a0, by simpa [encN] using a1⟩

/-- What IndexFunc tells. -/
def FirstMet (set : List Int) (l : List (Int × Int)) (e : Ending) : Prop :=
  (∃ i, ∃ hi : i < l.length, e = .returned (.int .i64 (i : Int)) ∧ metB set l[i] = true ∧ ∀ j (hj : j < l.length), j < i → metB set l[j] = false) ∨ (e = .returned (.int .i64 (-1)) ∧ ∀ j (hj : j < l.length), metB set l[j] = false)

end Go.Proofs.Ytjegokklmdfflaa
