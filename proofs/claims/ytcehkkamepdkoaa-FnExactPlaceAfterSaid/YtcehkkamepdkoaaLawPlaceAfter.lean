/-
  The walk of the law FnExactPlaceAfter: it returns true at every argument.
-/
import Derived.Test.YtcehkkamepdkoaaPlace
import Derived.Test.YtcehkkamepdkoaaFractionRec
namespace Go.Proofs.Ytcehkkamepdkoaa.fnExactPlaceAfter
open Go.RowKit
set_option maxRecDepth 100000 in
set_option maxHeartbeats 2000000 in
theorem walk (v : Value) (x : List TRide) {w : World} (hx : RidesIn w v x) (i0 : Int) (wi0 : (Lit.int .i64 i0).wf = true) : Calls Try.prog 9 #[v, .int .i64 i0] w fun e w' => e = .returned (.bool true) ∧ Below w.heap.size w w' := by
  obtain ⟨a, n, ca, rfl, hn, hmax, ha, _⟩ := hx
  by_cases h : 1048576 < n
  · have HL := leftOf_less (left := 1048576) (n := (n : Int)) (by omega)
    have HM := Lib.hid hmax
    clear hmax ha
    go_enter Try.func9, Try.ntmps9
    go_wp2_with (go_at_call 22; refine (szRideS_any _ _ _ _ _ (by omega) (by omega) HM.out).mono ?_; rintro e w1 ⟨rfl, rfl⟩)
    go_ret
    exact ⟨rfl, (by repeat (first | exact Below.refl _ _ | refine Below.drew ?_ | refine Below.alloc ?_ (by first | omega | (simp; try omega)) _))⟩
  · have hn' : n ≤ 1048576 := by omega
    have HL := leftOf_enough (left := 1048576) (n := (n : Int)) (by omega)
    have HM := Lib.hid hmax
    have HA := Lib.hid ha
    clear hmax ha
    go_enter Try.func9, Try.ntmps9
    go_wp2_with fail
    refine (szRideS_any _ _ _ _ _ (by omega) (by omega) HM.out).mono ?_
    rintro e w1 ⟨rfl, rfl⟩
    go_wp2_with fail
    refine (toRideS_any _ x _ _ _ hn HA.out hn').mono ?_
    rintro e w2 ⟨g2, rfl, hg2, hb2, ho2⟩
    have R2 := Lib.hid (own_RR cRide_len hn ho2)
    have A2 := Lib.hid (HA.out.below hb2)
    have B2 := Lib.hid hb2
    clear hb2 ho2 hg2 HA
    go_wp2_with fail
    refine (specPlaceAfter_any _ x i0 wi0 _ _ _ hn R2.out hn').mono ?_
    rintro e w3 ⟨rfl, hb3⟩
    have A3 := Lib.hid (A2.out.below hb3)
    have B3 := Lib.hid (B2.out.trans (hb3.mono B2.out.size))
    clear hb3 R2 A2 B2
    unfold placeV
    have D3 := Box.alloc w3 (cFraction (placeA x i0).2.1) 29
    have A3' := Lib.hid (A3.out.below ((Below.refl _ _).alloc (Nat.le_refl _) (.cells #[.int .i64 (placeA x i0).2.1.1, .int .i64 (placeA x i0).2.1.2] 29)))
    have B3' : Hid (Below w.heap.size w (w3.alloc (.cells #[.int .i64 (placeA x i0).2.1.1, .int .i64 (placeA x i0).2.1.2] 29))) := B3.out.alloc B3.out.size _
    clear A3 B3
    go_wp2_with fail
    refine (toRideS_any _ x _ _ _ hn A3'.out hn').mono ?_
    rintro e w4 ⟨g4, rfl, hg4, hb4, ho4⟩
    have R4 := Lib.hid (own_RR cRide_len hn ho4)
    have A4 := Lib.hid (A3'.out.below hb4)
    have B4 := Lib.hid (B3'.out.trans (hb4.mono B3'.out.size))
    have D4 := D3.below hb4
    clear hb4 ho4 hg4 A3' B3'
    go_wp2_with fail
    refine (implPlaceAfter_any _ x i0 wi0 _ _ _ hn R4.out hn').mono ?_
    rintro e w5 ⟨rfl, hb5⟩
    have R5 := Lib.hid (R4.out.below hb5)
    have A5 := Lib.hid (A4.out.below hb5)
    have B5 := Lib.hid (B4.out.trans (hb5.mono B4.out.size))
    have D5 := D4.below hb5
    clear hb5 R4 A4 B4
    unfold placeV
    obtain ⟨u0, u1⟩ := cFraction_box (D5.below ((Below.refl _ _).alloc (Nat.le_refl _) (.cells #[.int .i64 (placeA x i0).2.1.1, .int .i64 (placeA x i0).2.1.2] 29)))
    have E5 : Below w5.heap.size w5 (w5.alloc (.cells #[.int .i64 (placeA x i0).2.1.1, .int .i64 (placeA x i0).2.1.2] 29)) := (Below.refl _ _).alloc (Nat.le_refl _) _
    have R5' := Lib.hid (R5.out.below E5)
    have A5' := Lib.hid (A5.out.below E5)
    have B5' := Lib.hid (B5.out.trans (E5.mono B5.out.size))
    clear R5 A5 B5 E5
    go_wp2_with fail
    refine (eqFraction_any (placeA x i0).2.1 (placeA x i0).2.1 _).mono ?_
    rintro e w6 ⟨rfl, hb6⟩
    have R6 := Lib.hid (R5'.out.below hb6)
    have A6 := Lib.hid (A5'.out.below hb6)
    have B6 := Lib.hid (B5'.out.trans (hb6.mono B5'.out.size))
    clear hb6 R5' A5' B5' u0 u1
    have HT : ((placeA x i0).2.1 == (placeA x i0).2.1) = true := by simp
    rw [HT]
    go_wp2_with fail
    refine (toRideS_any _ x _ _ _ hn A6.out hn').mono ?_
    rintro e w7 ⟨g7, rfl, hg7, hb7, ho7⟩
    have R7 := Lib.hid (own_RR cRide_len hn ho7)
    have Q7 := Lib.hid (R6.out.below hb7)
    have B7 := Lib.hid (B6.out.trans (hb7.mono B6.out.size))
    clear hb7 ho7 hg7 A6 B6 R6
    go_wp2_with fail
    refine (eqRideS_any _ _ x x _ _ _ _ _ hn hn Q7.out R7.out HM.out).mono ?_
    rintro e w8 ⟨rfl, hb8⟩
    have B8 := Lib.hid (B7.out.trans (hb8.mono B7.out.size))
    have HX : (x == x) = true := by simp
    rw [HX]
    clear hb8 HX
    go_wp2
    go_ret
    exact ⟨rfl, B8.out⟩
end Go.Proofs.Ytcehkkamepdkoaa.fnExactPlaceAfter
