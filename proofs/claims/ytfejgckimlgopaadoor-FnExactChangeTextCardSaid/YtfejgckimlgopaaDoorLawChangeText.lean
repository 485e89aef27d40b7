/-
  The walk of the law FnExactChangeText: it returns true at every change, where the library's table of the powers of ten holds what the library's text lays.
-/
import Derived.Test.YtfejgckimlgopaaDoorChText
namespace Go.Proofs.YtfejgckimlgopaaDoor.fnExactChangeText
open Go.RowKit Go.ChangeShapes Go.WideShapes
theorem walk {w : World} (v : Value) (t : TChange) (hx : ChangeIn v t) (hL : laidMetH Tryd.prog Rows.fnExactChangeTextRow.laid w) :
    Calls Tryd.prog 4 #[v] w fun e w' => e = .returned (.bool true) ∧ Below w.heap.size w w' := by
  rw [MakeChecks.laidMetH_plain _ _ _ (by kernel_rfl)] at hL
  have ht : PowTab w.heap.size w := pow_of_laid (laidMet.tail (laidMet.tail hL))
  obtain ⟨rfl, _⟩ := hx
  have P0 := Box.alloc w (cChange t) 50
  go_enter Tryd.func4, Tryd.ntmps4
  go_wp2_with fail
  refine (toChange_any t _).mono ?_
  rintro e w1 ⟨rfl, hb1⟩
  have B1 := Lib.hid (((Below.refl w.heap.size w).alloc (Nat.le_refl _) _).trans (hb1.mono (by simp)))
  have P1 := P0.below hb1
  clear hb1 P0
  go_wp2_with fail
  refine (specChangeText_any t _).mono ?_
  rintro e w2 ⟨rfl, hb2⟩
  have B2 := Lib.hid (B1.out.trans (hb2.mono B1.out.size))
  have P2 := P1.below hb2
  clear hb2 P1
  obtain ⟨x0, x1, x2⟩ := cChange_box P2
  generalize hr : chText t = r
  have HR := Lib.hid hr
  clear hr
  go_wp2_with fail
  refine (toChange_any t _).mono ?_
  rintro e w3 ⟨rfl, hb3⟩
  have B3 := Lib.hid (B2.out.trans (hb3.mono B2.out.size))
  clear hb3 x0 x1 x2
  go_wp2_with fail
  refine (implChangeText_any t _ (ht.on B3.out) B3.out.size).mono ?_
  rintro e w4 ⟨rfl, hb4⟩
  have B4 := Lib.hid (B3.out.trans (hb4.mono B3.out.size))
  rw [HR.out]
  clear hb4
  go_wp2
  go_ret
  exact ⟨rfl, B4.out⟩
end Go.Proofs.YtfejgckimlgopaaDoor.fnExactChangeText
