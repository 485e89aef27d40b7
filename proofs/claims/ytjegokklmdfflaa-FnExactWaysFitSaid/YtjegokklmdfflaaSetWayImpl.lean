/-
  The walk of SetWay, the program's.
-/
import Derived.Test.YtjegokklmdfflaaSetWay
namespace Go.Proofs.Ytjegokklmdfflaa
open Go.RowKit

theorem checkWays1_at (v : Int) (s : Int) (a aw c : Option Addr) (ts : List T3) (way : List Int) (n ca cw cc : Nat) (hv : (if simpleB ts way = true then (0 : Int) else 2) = v) (w : World) (hn : Hid (ts.length = n)) (ha : RT w a ts) (hmax : n ≤ 1048576) (hnet : netB s ts = true) (hw : RWays w aw [((c, cc), way)]) :
    Calls Try.prog 20 #[.int .i64 0, .agg #[.int .i64 s, .slice a n ca], .slice aw 1 cw] w fun e w' => e = .returned (.int .i64 v) ∧ Below w.heap.size w w' := by
  rw [← hv, ← waysCode_one ts (c, cc) way]
  exact checkWays_any s a aw ts _ n ca 1 cw w hn ha hmax hnet rfl (by omega) hw
theorem setCode_nil_ok {s : Int} {ts : List T3} {set : List Int} (h : setB s ts set = true) : setCode s ts set [] = 0 := (setCode_of h).trans (codeOf_ok (setB_parts h).1 (fun k hk => absurd hk (by simp)))
theorem Row.store {lo hi : Nat} {e : TypeId} {size n g : Nat} {v : Value} {xs : List Value} {w : World} (h : Row lo hi e size v n xs w) (hg : g < lo) (f : Nat) (x : Value) : Row lo hi e size v n xs (w.setCell ⟨g, f, none⟩ x) := by
  refine ⟨h.1.kept (grown_setCell (grown_refl w (some g)) x) ?_, h.2⟩
  cases hv : v.ownBlock with
  | none => exact .inl rfl
  | some k => exact .inr (fun e => by injection e with e; have := (h.2 k hv).1; omega)

end Go.Proofs.Ytjegokklmdfflaa
