/-
  The walks of the small functions on rides: isWithin, l03Ok, ValidRide (the model's and the program's): they return 'rideB'.
-/
import Derived.Test.YtcehkkamepdkoaaRideMath
import Derived.Test.YtcehkkamepdkoaaRideRec
import Derived.Test.YtcehkkamepdkoaaIn
namespace Go.Proofs.Ytcehkkamepdkoaa
open Go.RowKit

theorem rideB_ways (t : R4) : ((inB t.1 1 2000 = false) ∧ Hid (rideB t = false)) ∨
    ((inB t.1 1 2000 = true ∧ inB t.2.1 0 500 = false) ∧ Hid (rideB t = false)) ∨
    ((inB t.1 1 2000 = true ∧ inB t.2.1 0 500 = true ∧ inB t.2.2.1 1 100 = false) ∧ Hid (rideB t = false)) ∨
    ((inB t.1 1 2000 = true ∧ inB t.2.1 0 500 = true ∧ inB t.2.2.1 1 100 = true ∧ inB t.2.2.2 0 40 = false) ∧ Hid (rideB t = false)) ∨
    ((inB t.1 1 2000 = true ∧ inB t.2.1 0 500 = true ∧ inB t.2.2.1 1 100 = true ∧ inB t.2.2.2 0 40 = true) ∧ Hid (rideB t = true)) := by
  unfold inB rideB Hid
  simp
  omega
theorem isWithin_any (x lo hi : Int) (w : World) : Calls Try.prog 49 #[.int .i64 x, .int .i64 lo, .int .i64 hi] w fun e w' => e = .returned (.bool (inB x lo hi)) ∧ w = w' := by
  by_cases a : lo ≤ x <;> by_cases b : x ≤ hi
  all_goals
    go_enter Try.func49, Try.ntmps49
    go_wp2
    go_ret
    exact ⟨ret_bool (by simp [inB, *]), rfl⟩
set_option maxHeartbeats 1000000 in
theorem l03Ok_any (pb po : Nat) (t : R4) (w : World) (p0 : w.cell? ⟨pb, po, none⟩ = some (.int .i64 t.1)) (p1 : w.cell? ⟨pb, po + 1, none⟩ = some (.int .i64 t.2.1)) (p2 : w.cell? ⟨pb, po + 2, none⟩ = some (.int .i64 t.2.2.1)) (p3 : w.cell? ⟨pb, po + 3, none⟩ = some (.int .i64 t.2.2.2)) : Calls Try.prog 48 #[.pointer (some ⟨pb, po, none⟩)] w fun e w' => e = .returned (.bool (rideB t)) ∧ Below w.heap.size w w' := by
  rcases rideB_ways t with ⟨a, Hr⟩ | ⟨⟨a, b⟩, Hr⟩ | ⟨⟨a, b, c⟩, Hr⟩ | ⟨⟨a, b, c, d⟩, Hr⟩ | ⟨⟨a, b, c, d⟩, Hr⟩
  all_goals
    go_enter Try.func48, Try.ntmps48
    go_wp2_with (go_at_call 66; refine (l00In_any _ _ _ _).mono ?_; rintro e w' ⟨rfl, rfl⟩)
    go_ret
    exact ⟨ret_bool Hr.out.symm, (by repeat (first | exact Below.refl _ _ | refine Below.alloc ?_ (by simp; try omega) _ | refine Below.setCell ?_ (by simp; try omega) _))⟩
set_option maxHeartbeats 1000000 in
theorem implValidRide_any (t : R4) (w : World) : Calls Try.prog 16 #[.agg #[.int .i64 t.1, .int .i64 t.2.1, .int .i64 t.2.2.1, .int .i64 t.2.2.2]] w fun e w' => e = .returned (.bool (rideB t)) ∧ Below w.heap.size w w' := by
  rcases rideB_ways t with ⟨a, Hr⟩ | ⟨⟨a, b⟩, Hr⟩ | ⟨⟨a, b, c⟩, Hr⟩ | ⟨⟨a, b, c, d⟩, Hr⟩ | ⟨⟨a, b, c, d⟩, Hr⟩
  all_goals
    go_enter Try.func16, Try.ntmps16
    go_wp2_with (go_at_call 49; refine (isWithin_any _ _ _ _).mono ?_; rintro e w' ⟨rfl, rfl⟩)
    go_ret
    exact ⟨ret_bool Hr.out.symm, (by repeat (first | exact Below.refl _ _ | refine Below.alloc ?_ (by simp; try omega) _ | refine Below.setCell ?_ (by simp; try omega) _))⟩
set_option maxHeartbeats 1000000 in
theorem specValidRide_any (t : R4) (w : World) : Calls Try.prog 14 #[.agg #[.int .i64 t.1, .int .i64 t.2.1, .int .i64 t.2.2.1, .int .i64 t.2.2.2]] w fun e w' => e = .returned (.bool (rideB t)) ∧ Below w.heap.size w w' := by
  go_enter Try.func14, Try.ntmps14
  go_wp2_with fail
  refine (l03Ok_any _ 0 t _ (by simp [go_sem]) (by simp [go_sem]) (by simp [go_sem]) (by simp [go_sem])).mono ?_
  rintro e w1 ⟨rfl, hb1⟩
  go_wp2
  go_ret
  exact ⟨rfl, Below.trans (by repeat (first | exact Below.refl _ _ | refine Below.alloc ?_ (by simp; try omega) _ | refine Below.setCell ?_ (by simp; try omega) _)) (hb1.mono (by simp))⟩
end Go.Proofs.Ytcehkkamepdkoaa
