/-
  The walk of the law FnExactSlowestRide: it returns true at every argument.
-/
import Derived.Test.YtcehkkamepdkoaaSlowest
import Derived.Test.YtcehkkamepdkoaaFractionRec
namespace Go.Proofs.Ytcehkkamepdkoaa.fnExactSlowestRide
open Go.RowKit
set_option maxRecDepth 100000 in
set_option maxHeartbeats 2000000 in
theorem walk (v : Value) (x : List TRide) {w : World} (hx : RidesIn w v x) : Calls Try.prog 11 #[v] w fun e w' => e = .returned (.bool true) ∧ Below w.heap.size w w' := by
  obtain ⟨a, n, ca, rfl, hn, hmax, ha, _⟩ := hx
  by_cases h : 1048576 < n
  · have HL := leftOf_less (left := 1048576) (n := (n : Int)) (by omega)
    have HM := Lib.hid hmax
    clear hmax ha
    go_enter Try.func11, Try.ntmps11
    go_wp2_with (go_at_call 22; refine (szRideS_any _ _ _ _ _ (by omega) (by omega) HM.out).mono ?_; rintro e w1 ⟨rfl, rfl⟩)
    go_ret
    exact ⟨rfl, (by repeat (first | exact Below.refl _ _ | refine Below.drew ?_ | refine Below.alloc ?_ (by first | omega | (simp; try omega)) _))⟩
  · have hn' : n ≤ 1048576 := by omega
    have HL := leftOf_enough (left := 1048576) (n := (n : Int)) (by omega)
    have HM := Lib.hid hmax
    have HA := Lib.hid ha
    clear hmax ha
    go_enter Try.func11, Try.ntmps11
    go_wp2_with fail
    refine (szRideS_any _ _ _ _ _ (by omega) (by omega) HM.out).mono ?_
    rintro e w1 ⟨rfl, rfl⟩
    go_wp2_with fail
    refine (toRideS_any _ x _ _ _ hn HA.out hn').mono ?_
    rintro e w2 ⟨g2, rfl, hg2, hb2, ho2⟩
    have R2 := Lib.hid (own_RR cRide_len hn ho2)
    have A2 := Lib.hid (HA.out.below hb2)
    have B2 := Lib.hid hb2
    clear hb2 ho2 hg2 HA
    go_wp2_with fail
    refine (specSlowestRide_any _ x _ _ _ hn R2.out hn').mono ?_
    rintro e w3 ⟨rfl, hb3⟩
    have A3 := Lib.hid (A2.out.below hb3)
    have B3 := Lib.hid (B2.out.trans (hb3.mono B2.out.size))
    clear hb3 R2 A2 B2
    unfold slowV
    go_wp2_with fail
    refine (toRideS_any _ x _ _ _ hn A3.out hn').mono ?_
    rintro e w4 ⟨g4, rfl, hg4, hb4, ho4⟩
    have R4 := Lib.hid (own_RR cRide_len hn ho4)
    have A4 := Lib.hid (A3.out.below hb4)
    have B4 := Lib.hid (B3.out.trans (hb4.mono B3.out.size))
    clear hb4 ho4 hg4 A3 B3
    go_wp2_with fail
    refine (implSlowestRide_any _ x _ _ _ hn R4.out hn').mono ?_
    rintro e w5 ⟨rfl, hb5⟩
    have R5 := Lib.hid (R4.out.below hb5)
    have A5 := Lib.hid (A4.out.below hb5)
    have B5 := Lib.hid (B4.out.trans (hb5.mono B4.out.size))
    clear hb5 R4 A4 B4
    unfold slowV
    go_wp2_with fail
    refine (toRideS_any _ x _ _ _ hn A5.out hn').mono ?_
    rintro e w7 ⟨g7, rfl, hg7, hb7, ho7⟩
    have R7 := Lib.hid (own_RR cRide_len hn ho7)
    have Q7 := Lib.hid (R5.out.below hb7)
    have B7 := Lib.hid (B5.out.trans (hb7.mono B5.out.size))
    clear hb7 ho7 hg7 A5 B5 R5
    go_wp2_with fail
    refine (eqRideS_any _ _ x x _ _ _ _ _ hn hn Q7.out R7.out HM.out).mono ?_
    rintro e w8 ⟨rfl, hb8⟩
    have B8 := Lib.hid (B7.out.trans (hb8.mono B7.out.size))
    have HX : (x == x) = true := by simp
    rw [HX]
    clear hb8 HX
    go_wp2
    go_ret
    exact ⟨rfl, B8.out⟩
end Go.Proofs.Ytcehkkamepdkoaa.fnExactSlowestRide
