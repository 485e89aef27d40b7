/-
  Maps of a call's own whose elements are kept as the values that they are: a look-up hands back the very value that was stored. Nothing of the program stands here.
-/
import Derived.Test.YtkfeihnapcfkgaaDoorMem
import Derived.Maps.OwnOps
import Derived.Maps.OwnSet
import Derived.Maps.Views
namespace Go.Proofs.YtkfeihnapcfkgaaDoor
open Go.RowKit Go.Maps Go.ChangeShapes

/-- An element is read as itself. -/
def asHeld (v : Value) : Option (DataW Value × List MemPlace) := some (.held v, [])
/-- Block b is a map of at most n entries with keys of the kind i64 (type k); at each number the function V tells the element, the value z where there is none. -/
def HeldMap (P : Program) (k : TypeId) (z : Value) (b n : Nat) (V : Int → Value) (w : World) : Prop :=
  ∃ D : DataW Value, w.ownsMap P k asHeld b n D ∧ ∀ i : Int, D.atKey (.int .i64 i) (.held z) = .held (V i)
section
variable {P : Program} {k : TypeId} {z : Value} {b n : Nat} {V : Int → Value} {w w' : World}
theorem HeldMap.made (w : World) (P : Program) (k : TypeId) (z : Value) : HeldMap P k z w.heap.size 0 (fun _ => z) (w.alloc (.map #[] 0)) := ⟨_, World.ownsMap_made w P k asHeld, fun _ => rfl⟩
theorem HeldMap.kept {row : Option Nat} (h : HeldMap P k z b n V w) (hg : w.grownBy w' row) (hne : some b ≠ row) : HeldMap P k z b n V w' := let ⟨D, h1, h2⟩ := h; ⟨D, h1.kept hg hne, h2⟩
theorem HeldMap.below (h : HeldMap P k z b n V w) (hb : Below w.heap.size w w') : HeldMap P k z b n V w' := h.kept (grown_below hb none) (by simp)
theorem HeldMap.lt (h : HeldMap P k z b n V w) : b < w.heap.size := let ⟨_, h1, _⟩ := h; h1.lt
theorem HeldMap.look {t e : TypeId} (h : HeldMap P k z b n V w) (hk : P.underlying k = some (.int .i64)) (ht : P.underlying t = some (.map k e)) (hz : (zeroValue e).run P w = .ok z w) {i : Int} (hi : (Lit.int .i64 i).wf = true) :
    (Instr.lookup t (.map (some b)) (.int .i64 i) false).run P w = .ok (V i) w := by
  obtain ⟨D, h1, h2⟩ := h
  obtain ⟨v, ps, hrun, hv⟩ := h1.lookup (int_keyed hk) ht hz (zd := .held z) (zp := []) rfl (keyOf_int_mk hk hi)
  rw [h2 i] at hv
  unfold asHeld at hv
  simp only [Option.some.injEq, Prod.mk.injEq, DataW.held.injEq] at hv
  rw [hrun, hv.1]
theorem HeldMap.store {t e : TypeId} (h : HeldMap P k z b n V w) (hk : P.underlying k = some (.int .i64)) (ht : P.underlying t = some (.map k e)) (hn : n < maxLen) {i : Int} (hi : (Lit.int .i64 i).wf = true) (v : Value) :
    ∃ w', (Instr.mapUpdate t (.map (some b)) (.int .i64 i) v).run P w = .ok () w' ∧ HeldMap P k z b (n + 1) (fun j => if j = i then v else V j) w' ∧ w.grownBy w' (some b) := by
  obtain ⟨D, h1, h2⟩ := h
  obtain ⟨w', hrun, h3, h4⟩ := h1.update (int_keyed hk) ht hn (keyOf_int_mk hk hi) (val := v) (d := .held v) (ps := []) rfl
  refine ⟨w', hrun, ⟨_, h3, fun j => ?_⟩, h4⟩
  dsimp only
  by_cases e : j = i
  · subst e
    rw [if_pos rfl]
    exact atKey_put_same h1.isMap (show WideAt.IsKeyLit (.int .i64 j) from trivial) _ _
  · rw [if_neg e, atKey_put_other (fun he => e (by injection he)), h2]
end
end Go.Proofs.YtkfeihnapcfkgaaDoor
