/-
  Plain facts on the memory of a call: worlds behind each other, rows of a law's own between two bounds, marks. Nothing of the program stands here.
-/
import Derived.Test.YtiilgeoahpnkpaaBase
import Derived.OwnWalk
namespace Go.Proofs.Ytiilgeoahpnkpaa
open Go.RowKit

theorem two_worlds {a b c : World} (h : Below a.heap.size a b) (k : Below b.heap.size b c) : Below a.heap.size a c := h.trans (k.mono h.size)
theorem two_worldsC {a b c : World} (h : Below a.heap.size a b) (k : Below b.heap.size b c) : Below a.heap.size a c := h.trans (k.mono h.size)
theorem grown_refl (w : World) (row : Option Nat) : w.grownBy w row := ⟨rfl, rfl, rfl, Nat.le_refl _, fun _ _ _ => rfl⟩
theorem grown_setCell {a w : World} {g : Nat} (h : a.grownBy w (some g)) {o : Nat} (u : Value) : a.grownBy (w.setCell ⟨g, o, none⟩ u) (some g) :=
  ⟨h.os, h.tape, h.output, by simpa [World.setCell] using h.size, fun i hi hne => (Below.heap_setCell w _ u i (by rintro rfl; exact hne rfl)).trans (h.block i hi hne)⟩

/-- A row of memory, the cells that it holds, and the bounds of its block. -/
def Row (lo hi : Nat) (e : TypeId) (size : Nat) (v : Value) (n : Nat) (xs : List Value) (w : World) : Prop := w.ownsRow lo e size v n xs ∧ ∀ k, v.ownBlock = some k → lo ≤ k ∧ k < hi
section
variable {lo hi : Nat} {e : TypeId} {size n : Nat} {v : Value} {xs : List Value} {w w' : World}
theorem Row.of (h : w.ownsRow lo e size v n xs) : Row lo w.heap.size e size v n xs w := ⟨h, h.lt⟩
theorem grown_below {a b : World} (h : Below a.heap.size a b) (row : Option Nat) : a.grownBy b row := ⟨h.os, h.tape, h.output, h.size, fun i hi _ => h.block i hi⟩
theorem Row.below (h : Row lo hi e size v n xs w) (hb : Below w.heap.size w w') : Row lo hi e size v n xs w' := ⟨h.1.kept (grown_below hb none) (by cases v.ownBlock <;> simp), h.2⟩
theorem Row.kept {u : Value} {l h' : Nat} (h : Row lo hi e size v n xs w) (hg : w.grownBy w' u.ownBlock) (hu : ∀ k, u.ownBlock = some k → l ≤ k ∧ k < h') (hd : hi ≤ l ∨ h' ≤ lo) : Row lo hi e size v n xs w' := by
  refine ⟨h.1.kept hg ?_, h.2⟩
  cases hv : v.ownBlock with
  | none => exact .inl rfl
  | some k =>
    refine .inr (fun e => ?_)
    have h1 := h.2 k hv
    have h2 := hu k e.symm
    omega
theorem below_mark {u : Value} {l h' B : Nat} {a : World} (h : Below B a w) (hg : w.grownBy w' u.ownBlock) (hB : B ≤ w.heap.size) (hu : ∀ k, u.ownBlock = some k → l ≤ k ∧ k < h') (hl : B ≤ l) : Below B a w' :=
  h.grown hg hB (fun k hk => by have := hu k hk; omega)
end
def marksI (k : Int) (n : Nat) : List Int := (List.range n).map fun (i : Nat) => k + (i : Int)
theorem marksI_length (k : Int) (n : Nat) : (marksI k n).length = n := by simp [marksI]
theorem marksI_get (k : Int) (n i : Nat) (h : i < (marksI k n).length) : (marksI k n)[i] = k + (i : Int) := by simp [marksI]

end Go.Proofs.Ytiilgeoahpnkpaa
