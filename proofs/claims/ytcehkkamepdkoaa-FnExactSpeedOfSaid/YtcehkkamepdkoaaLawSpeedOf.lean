/-
  The walk of the law FnExactSpeedOf: it returns true at every argument.
-/
import Derived.Test.YtcehkkamepdkoaaSpeedOf
import Derived.Test.YtcehkkamepdkoaaFractionRec
namespace Go.Proofs.Ytcehkkamepdkoaa.fnExactSpeedOf
open Go.RowKit
set_option maxHeartbeats 1000000 in
theorem walk (v : Value) (t : TRide) {w : World} (hx : RideIn v t) : Calls Try.prog 4 #[v] w fun e w' => e = .returned (.bool true) ∧ Below w.heap.size w w' := by
  obtain ⟨rfl, _⟩ := hx
  have P0 := Box.alloc w (cRide t) 23
  go_enter Try.func4, Try.ntmps4
  go_wp2_with fail
  refine (toRide_any t _).mono ?_
  rintro e w1 ⟨rfl, hb1⟩
  have B1 := Lib.hid (((Below.refl w.heap.size w).alloc (Nat.le_refl _) _).trans (hb1.mono (by simp)))
  have P1 := P0.below hb1
  clear hb1 P0
  go_wp2_with fail
  refine (specSpeedOf_any t _).mono ?_
  rintro e w2 ⟨rfl, hb2⟩
  have B2 := Lib.hid (B1.out.trans (hb2.mono B1.out.size))
  have P2 := P1.below hb2
  clear hb2 P1
  have D2 := Box.alloc w2 (cFraction (spA t)) 29
  have P3 := P2.below ((Below.refl _ _).alloc (Nat.le_refl _) (.cells #[.int .i64 (spA t).1, .int .i64 (spA t).2] 29))
  have B2' : Hid (Below w.heap.size w (w2.alloc (.cells #[.int .i64 (spA t).1, .int .i64 (spA t).2] 29))) := B2.out.alloc B2.out.size _
  unfold speedV
  obtain ⟨x0, x1, x2, x3⟩ := cRide_box P3
  go_wp2_with fail
  refine (toRide_any t _).mono ?_
  rintro e w3 ⟨rfl, hb3⟩
  have B3 := Lib.hid (B2'.out.trans (hb3.mono B2'.out.size))
  have D3 := D2.below hb3
  clear hb3 D2 P3 x0 x1 x2 x3
  go_wp2_with fail
  refine (implSpeedOf_any t _).mono ?_
  rintro e w4 ⟨rfl, hb4⟩
  have B4 := Lib.hid (B3.out.trans (hb4.mono B3.out.size))
  have D4 := D3.below hb4
  clear hb4 D3
  obtain ⟨u0, u1⟩ := cFraction_box (D4.below ((Below.refl _ _).alloc (Nat.le_refl _) (.cells #[.int .i64 (spA t).1, .int .i64 (spA t).2] 29)))
  have B4' : Hid (Below w.heap.size w (w4.alloc (.cells #[.int .i64 (spA t).1, .int .i64 (spA t).2] 29))) := B4.out.alloc B4.out.size _
  unfold speedV
  go_wp2_with fail
  refine (eqFraction_any (spA t) (spA t) _).mono ?_
  rintro e w5 ⟨rfl, hb5⟩
  have B5 := Lib.hid (B4'.out.trans (hb5.mono B4'.out.size))
  have HT : ((spA t) == (spA t)) = true := by simp
  rw [HT]
  go_wp2
  go_ret
  exact ⟨rfl, B5.out⟩
end Go.Proofs.Ytcehkkamepdkoaa.fnExactSpeedOf
