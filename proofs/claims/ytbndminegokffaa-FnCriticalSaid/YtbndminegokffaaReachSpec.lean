/-
  ReachedFrom: the model's walk.
-/
import Derived.Test.YtbndminegokffaaFar
import Derived.Test.YtbndminegokffaaReachMath
import Derived.Test.YtbndminegokffaaLawRow
import Derived.Test.YtbndminegokffaaTubesFromBy
namespace Go.Proofs.Ytbndminegokffaa
open Go.RowKit

theorem own_belowF {w w' : World} {lo n : Nat} {e : TypeId} {size : Nat} {v : Value} {xs : List Value} (h : w.ownsRow lo e size v n xs) (hb : Below w.heap.size w w') : w'.ownsRow lo e size v n xs :=
  h.kept (⟨hb.os, hb.tape, hb.output, hb.size, fun i hi _ => hb.block i hi⟩ : w.grownBy w' none) (by cases hv : v.ownBlock <;> simp)
/-- What ReachedFrom returns. -/
def reachOf (s : Int) (ts : List T3) (x : Int) : List Int × Int := if codeOf s ts [x] = 0 then (reachL ts s.toNat x.toNat, 0) else ([], codeOf s ts [x])
theorem reachL_eq (ts : List T3) (S st : Nat) : reachL ts S st = reachK ts S st S := rfl
theorem reachOf_len (s : Int) (ts : List T3) (x : Int) : (reachOf s ts x).1.length ≤ 1048576 := by
  unfold reachOf
  split
  · rename_i h
    obtain ⟨_, h10, _, _⟩ := netB_parts (codeOf_ok_parts h).1
    have := reachK_len ts s.toNat x.toNat s.toNat
    rw [reachL_eq]
    simp only
    omega
  · simp
end Go.Proofs.Ytbndminegokffaa
