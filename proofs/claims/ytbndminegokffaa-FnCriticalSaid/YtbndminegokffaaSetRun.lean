/-
  The walk of l04Run, the model's run of a carrier, and of endOf, the program's.
-/
import Derived.Test.YtbndminegokffaaValidSetting
import Derived.Deep.AppendLies
import Derived.Deep.RegionHeld3
import Derived.OwnWalk
namespace Go.Proofs.Ytbndminegokffaa
open Go.RowKit

theorem own_lo_block {w : World} {lo n k : Nat} {e : TypeId} {size : Nat} {v : Value} {xs : List Value} (h : w.ownsRow lo e size v n xs) (hk : v.ownBlock = some k) : lo ≤ k := by
  rcases h.2 with ⟨rfl, _⟩ | ⟨g, cap, cur, rfl, hg, _⟩
  · simp [Value.ownBlock] at hk
  · simp [Value.ownBlock] at hk; omega
theorem news_one (w : World) (z : Value) (e : TypeId) : ∀ j u, [z][j]? = some u → (w.alloc (.cells #[z] e)).cell? ((⟨w.heap.size, 0, none⟩ : Addr).add j) = some u := by
  intro j u hj
  match j, hj with
  | 0, hj => simp at hj; subst hj; simp [Addr.add, go_sem]
def lenOfV : Value → Nat
  | .slice _ n _ => n
  | _ => 0

/-- What a run hands back: the tubes in memory of its own, and where it ends; nothing and -1 if it never ends. -/
def RunGives (r : Option (List Int × Int)) (w : World) (e : Ending) (w' : World) : Prop :=
  Below w.heap.size w w' ∧ match r with
    | none => e = .returned (.tuple #[.slice none 0 0, .int .i64 (-1)])
    | some p => ∃ ao cap, e = .returned (.tuple #[.slice ao p.1.length cap, .int .i64 p.2]) ∧ w'.ownsRow w.heap.size 2 1 (.slice ao p.1.length cap) p.1.length (p.1.map (Value.int .i64))

theorem runGives_some {r : Option (List Int × Int)} {l : List Int} {y : Int} {w w' : World} {ao : Option Addr} {cap i : Nat} (h : r = some (l, y)) (hb : Below w.heap.size w w') (hl : l.length = i) (ho : w'.ownsRow w.heap.size 2 1 (.slice ao i cap) i (l.map (Value.int .i64))) :
    RunGives r w (.returned (.tuple #[.slice ao i cap, .int .i64 y])) w' := by
  subst hl; subst h
  exact ⟨hb, ao, cap, rfl, ho⟩
theorem runGives_none {r : Option (List Int × Int)} {w w' : World} (h : r = none) (hb : Below w.heap.size w w') : RunGives r w (.returned (.tuple #[.slice none 0 0, .int .i64 (-1)])) w' := by
  subst h
  exact ⟨hb, rfl⟩

/-- Where a carrier stops, and whether it does. -/
def endRes (s : Int) (ts : List T3) (set : List Int) (x : Int) : Int × Bool := match runF ts set (-1) s.toNat x with
  | some p => (p.2, true)
  | none => (0, false)

theorem ret_end {p : Int × Bool} {y : Int} {b : Bool} (h : p = (y, b)) : Ending.returned (.tuple #[.int .i64 y, .bool b]) = .returned (.tuple #[.int .i64 p.1, .bool p.2]) := by rw [h]
end Go.Proofs.Ytbndminegokffaa
