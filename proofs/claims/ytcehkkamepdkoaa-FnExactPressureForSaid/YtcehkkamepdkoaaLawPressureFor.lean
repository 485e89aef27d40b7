/-
  The walk of the law FnExactPressureFor: it returns true at every argument.
-/
import Derived.Test.YtcehkkamepdkoaaPressFor
namespace Go.Proofs.Ytcehkkamepdkoaa.fnExactPressureFor
open Go.RowKit
set_option maxHeartbeats 1000000 in
theorem walk (v : Value) (t : TRide) {w : World} (hx : RideIn v t) (i0 : Int) (_wi0 : (Lit.int .i64 i0).wf = true) : Calls Try.prog 7 #[v, .int .i64 i0] w fun e w' => e = .returned (.bool true) ∧ Below w.heap.size w w' := by
  obtain ⟨rfl, _⟩ := hx
  have P0 := Box.alloc w (cRide t) 23
  go_enter Try.func7, Try.ntmps7
  go_wp2_with fail
  refine (toRide_any t _).mono ?_
  rintro e w1 ⟨rfl, hb1⟩
  have B1 := Lib.hid (((Below.refl w.heap.size w).alloc (Nat.le_refl _) _).trans (hb1.mono (by simp)))
  have P1 := P0.below hb1
  clear hb1 P0
  go_wp2_with fail
  refine (specPressureFor_any t i0 _).mono ?_
  rintro e w2 ⟨rfl, hb2⟩
  have B2 := Lib.hid (B1.out.trans (hb2.mono B1.out.size))
  have P2 := P1.below hb2
  clear hb2 P1
  unfold pfV
  obtain ⟨x0, x1, x2, x3⟩ := cRide_box P2
  go_wp2_with fail
  refine (toRide_any t _).mono ?_
  rintro e w3 ⟨rfl, hb3⟩
  have B3 := Lib.hid (B2.out.trans (hb3.mono B2.out.size))
  clear hb3 x0 x1 x2 x3
  go_wp2_with fail
  refine (implPressureFor_any t i0 _).mono ?_
  rintro e w4 ⟨rfl, hb4⟩
  have B4 := Lib.hid (B3.out.trans (hb4.mono B3.out.size))
  clear hb4
  unfold pfV
  go_wp2
  go_ret
  exact ⟨rfl, B4.out⟩
end Go.Proofs.Ytcehkkamepdkoaa.fnExactPressureFor
