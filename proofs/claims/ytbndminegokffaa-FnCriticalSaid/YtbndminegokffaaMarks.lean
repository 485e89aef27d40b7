/-
  The walks of the laws' own helpers that write marks into a result and look for them again: markTubeS, markNet, heldTubeS, heldNet, markInt64S, heldInt64S.
-/
import Derived.Test.YtbndminegokffaaMarksI
import Derived.Test.YtbndminegokffaaNetTo
namespace Go.Proofs.Ytbndminegokffaa
open Go.RowKit

def marksT (k : Int) (n : Nat) : List T3 := (List.range n).map fun (i : Nat) => (k + 3 * (i : Int), k + 3 * (i : Int) + 1, k + 3 * (i : Int) + 1 + 1)
theorem marksT_length (k : Int) (n : Nat) : (marksT k n).length = n := by simp [marksT]
theorem marksT_get (k : Int) (n i : Nat) (h : i < (marksT k n).length) : (marksT k n)[i] = (k + 3 * (i : Int), k + 3 * (i : Int) + 1, k + 3 * (i : Int) + 1 + 1) := by simp [marksT]
theorem Filled.stepM {ts : List T3} {cur : Array Value} {k : Nat} (h : Filled ts cur k) (hs : k * 3 + 2 < cur.size) (hk : k < ts.length) :
    Filled ts (((cur.setIfInBounds (k * 3) (.int .i64 ts[k].1)).setIfInBounds (k * 3 + 1) (.int .i64 ts[k].2.1)).setIfInBounds (k * 3 + 2) (.int .i64 ts[k].2.2)) (k + 1) := by
  intro i hi hik
  by_cases e : i = k
  · subst e
    refine ⟨?_, ?_, ?_⟩
    all_goals simp [Array.getElem?_setIfInBounds]; omega
  · obtain ⟨h1, h2, h3⟩ := h i hi (by omega)
    refine ⟨?_, ?_, ?_⟩
    · rw [Array.getElem?_setIfInBounds_ne (by omega), Array.getElem?_setIfInBounds_ne (by omega), Array.getElem?_setIfInBounds_ne (by omega)]; exact h1
    · rw [Array.getElem?_setIfInBounds_ne (by omega), Array.getElem?_setIfInBounds_ne (by omega), Array.getElem?_setIfInBounds_ne (by omega)]; exact h2
    · rw [Array.getElem?_setIfInBounds_ne (by omega), Array.getElem?_setIfInBounds_ne (by omega), Array.getElem?_setIfInBounds_ne (by omega)]; exact h3
theorem row_ownM {w : World} {lo g n c : Nat} {e : TypeId} {ts : List T3} {cur : Array Value} (hg : w.heap[g]? = some (.cells cur e (0, 0))) (hlo : lo ≤ g) (hnc : n ≤ c) (hm : c ≤ maxLen) (hs : cur.size = c * 3) (hl : ts.length = n) (h : Filled ts cur n) :
    w.ownsRow lo e 3 (.slice (some ⟨g, 0, none⟩) n c) n (flat ts) := by
  subst hl
  exact ⟨flat_length ts, .inr ⟨g, c, cur, rfl, hlo, hg, hnc, hm, hs, flat_take ts cur.toList (by simp; omega) (fun i hi => by simpa using h i hi hi)⟩⟩
/-- A call marks a slice of its caller's own, and turns nothing else. -/
def MarksT (v : Value) (lo n : Nat) (k : Int) (w : World) (e : Ending) (w' : World) : Prop :=
  e = .returned (.int .i64 (k + 3 * (n : Int))) ∧ w.grownBy w' v.ownBlock ∧ w'.ownsRow lo 36 3 v n (flat (marksT k n))

end Go.Proofs.Ytbndminegokffaa
