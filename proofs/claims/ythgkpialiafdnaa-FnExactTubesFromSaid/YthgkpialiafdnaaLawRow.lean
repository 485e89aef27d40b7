/-
  Rows of a law's own, each between two bounds: what keeps them where another one is written.
-/
import Derived.Test.YthgkpialiafdnaaLawSameNet
import Derived.Test.YthgkpialiafdnaaMarks
import Derived.Test.YthgkpialiafdnaaNetMem
namespace Go.Proofs.Ythgkpialiafdnaa
open Go.RowKit

/-- A row of memory, the cells that it holds, and the bounds of its block. -/
def Row (lo hi : Nat) (e : TypeId) (size : Nat) (v : Value) (n : Nat) (xs : List Value) (w : World) : Prop := w.ownsRow lo e size v n xs ∧ ∀ k, v.ownBlock = some k → lo ≤ k ∧ k < hi
section
variable {lo hi : Nat} {e : TypeId} {size n : Nat} {v : Value} {xs : List Value} {w w' : World}
theorem Row.of (h : w.ownsRow lo e size v n xs) : Row lo w.heap.size e size v n xs w := ⟨h, h.lt⟩
theorem grown_below {a b : World} (h : Below a.heap.size a b) (row : Option Nat) : a.grownBy b row := ⟨h.os, h.tape, h.output, h.size, fun i hi _ => h.block i hi⟩
theorem Row.below (h : Row lo hi e size v n xs w) (hb : Below w.heap.size w w') : Row lo hi e size v n xs w' := ⟨h.1.kept (grown_below hb none) (by cases v.ownBlock <;> simp), h.2⟩
theorem Row.kept {u : Value} {l h' : Nat} (h : Row lo hi e size v n xs w) (hg : w.grownBy w' u.ownBlock) (hu : ∀ k, u.ownBlock = some k → l ≤ k ∧ k < h') (hd : hi ≤ l ∨ h' ≤ lo) : Row lo hi e size v n xs w' := by
  refine ⟨h.1.kept hg ?_, h.2⟩
  cases hv : v.ownBlock with
  | none => exact .inl rfl
  | some k =>
    refine .inr (fun e => ?_)
    have h1 := h.2 k hv
    have h2 := hu k e.symm
    omega
theorem BoxN.kept {u : Value} {l h' pb : Nat} {s : Int} {t : Value} (h : BoxN w pb s t) (hg : w.grownBy w' u.ownBlock) (hu : ∀ k, u.ownBlock = some k → l ≤ k ∧ k < h') (hd : pb < l ∨ h' ≤ pb) : BoxN w' pb s t := by
  have hne : some pb ≠ u.ownBlock := fun e => by have := hu pb e.symm; omega
  exact ⟨hg.cell (a := ⟨pb, 0, none⟩) h.1 hne, hg.cell (a := ⟨pb, 1, none⟩) h.2 hne⟩
theorem below_mark {u : Value} {l h' B : Nat} {a : World} (h : Below B a w) (hg : w.grownBy w' u.ownBlock) (hB : B ≤ w.heap.size) (hu : ∀ k, u.ownBlock = some k → l ≤ k ∧ k < h') (hl : B ≤ l) : Below B a w' :=
  h.grown hg hB (fun k hk => by have := hu k hk; omega)
end
theorem own_RI {w : World} {lo n c : Nat} {a : Option Addr} {e : TypeId} {ns : List Int} (hn : Hid (ns.length = n)) (h : w.ownsRow lo e 1 (.slice a n c) n (ns.map (Value.int .i64))) : RI w a ns := by
  rcases h.2 with ⟨hv, hz⟩ | ⟨g, cap, cur, hv, _, hg, _, _, _, ht⟩
  · left
    exact List.eq_nil_of_length_eq_zero (by rw [hn.out]; exact hz)
  · injection hv with h1 h2 h3
    refine .inr ⟨g, 0, h1, fun i hi => ?_⟩
    have hc := cell_of_row w g (0 + i) cur e (0, 0) hg
    rw [hc]
    have h4 := ints_cell ns i hi
    rw [← ht, List.getElem?_take_of_lt (by rw [hn.out] at hi; omega)] at h4
    simpa using h4
/-- A function hands back a list in memory of its own, and a number. -/
def GivesL (r : List Int × Int) (w : World) (e : Ending) (w' : World) : Prop :=
  Below w.heap.size w w' ∧ ∃ ao cap, e = .returned (.tuple #[.slice ao r.1.length cap, .int .i64 r.2]) ∧ w'.ownsRow w.heap.size 2 1 (.slice ao r.1.length cap) r.1.length (r.1.map (Value.int .i64))
theorem GivesL.elim {ws : List Int} {rc : Int} {m : Nat} {w w' : World} {e : Ending} (hm : Hid (ws.length = m)) (h : GivesL (ws, rc) w e w') :
    ∃ ao cap, e = .returned (.tuple #[.slice ao m cap, .int .i64 rc]) ∧ Below w.heap.size w w' ∧ w'.ownsRow w.heap.size 2 1 (.slice ao m cap) m (ws.map (Value.int .i64)) := by
  have := hm.out
  subst this
  obtain ⟨h1, ao, cap, h2, h3⟩ := h
  exact ⟨ao, cap, h2, h1, h3⟩
theorem givesL_of {r : List Int × Int} {l : List Int} {c : Int} {w w' : World} {ao : Option Addr} {cap i : Nat} (h : r = (l, c)) (hb : Below w.heap.size w w') (hl : l.length = i) (ho : w'.ownsRow w.heap.size 2 1 (.slice ao i cap) i (l.map (Value.int .i64))) :
    GivesL r w (.returned (.tuple #[.slice ao i cap, .int .i64 c])) w' := by
  subst hl; subst h
  exact ⟨hb, ao, cap, rfl, ho⟩
theorem givesL_nil {r : List Int × Int} {c : Int} {w w' : World} (h : r = ([], c)) (hb : Below w.heap.size w w') : GivesL r w (.returned (.tuple #[.slice none 0 0, .int .i64 c])) w' :=
  givesL_of h hb rfl (World.ownsRow_nil _ _ _ _)
end Go.Proofs.Ythgkpialiafdnaa
