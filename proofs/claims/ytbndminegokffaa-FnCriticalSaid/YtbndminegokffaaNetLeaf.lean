/-
  The walks of the small functions on networks: l00In, l02Tube, isStation, isTube, fitsNet, eqTube, toTube, szTubeS, szNet.
-/
import Derived.Test.YtbndminegokffaaProg
import Derived.Test.YtbndminegokffaaNetMath
import Derived.Test.YtbndminegokffaaIn
import Derived.WalkKit
import Derived.Lib.Hide
import Derived.Outline
import Derived.LoopTactic
import Derived.BigQuiet
import Derived.Deep.QuietTactic
namespace Go.Proofs.Ytbndminegokffaa
open Go.RowKit

theorem isStation_any (st k : Int) (a : Option Addr) (n c : Nat) (w : World) : Calls Try.prog 30 #[.agg #[.int .i64 st, .slice a n c], .int .i64 k] w fun e w' => e = .returned (.bool (stB st k)) ∧ w.alloc (.cells #[.int .i64 st, .slice a n c] 26) = w' := by
  by_cases h1 : 0 ≤ k <;> by_cases h2 : k < st
  all_goals
    go_enter Try.func30, Try.ntmps30
    go_wp2
    go_ret
    exact ⟨ret_bool (by simp [stB, *]), rfl⟩
theorem l02Tube_ways (t : T3) (st : Int) : (inB t.1 0 (st - 1) = false ∧ Hid (tubeB st t = false)) ∨ ((inB t.1 0 (st - 1) = true ∧ inB t.2.1 0 (st - 1) = false) ∧ Hid (tubeB st t = false)) ∨
    ((inB t.1 0 (st - 1) = true ∧ inB t.2.1 0 (st - 1) = true ∧ (t.1 != t.2.1) = false) ∧ Hid (tubeB st t = false)) ∨
    ((inB t.1 0 (st - 1) = true ∧ inB t.2.1 0 (st - 1) = true ∧ (t.1 != t.2.1) = true ∧ inB t.2.2 1 2000 = false) ∧ Hid (tubeB st t = false)) ∨
    ((inB t.1 0 (st - 1) = true ∧ inB t.2.1 0 (st - 1) = true ∧ (t.1 != t.2.1) = true ∧ inB t.2.2 1 2000 = true) ∧ Hid (tubeB st t = true)) := by
  unfold inB tubeB Hid
  simp
  omega
theorem l02Tube_any (t : T3) (st : Int) (w : World) (h2 : 2 ≤ st) (h10 : st ≤ 10) : Calls Try.prog 28 #[.agg #[.int .i64 t.1, .int .i64 t.2.1, .int .i64 t.2.2], .int .i64 st] w fun e w' => e = .returned (.bool (tubeB st t)) ∧ Below w.heap.size w w' := by
  rcases l02Tube_ways t st with ⟨a, Hr⟩ | ⟨⟨a, b⟩, Hr⟩ | ⟨⟨a, b, c⟩, Hr⟩ | ⟨⟨a, b, c, d⟩, Hr⟩ | ⟨⟨a, b, c, d⟩, Hr⟩
  all_goals
    go_enter Try.func28, Try.ntmps28
    go_wp2_with (go_at_call 27; refine (l00In_any _ _ _ _).mono ?_; rintro e w' ⟨rfl, rfl⟩)
    go_ret
    exact ⟨ret_bool Hr.out.symm, (Below.refl _ _).alloc (Nat.le_refl _) _⟩
theorem fitsNet_ways (t : T3) (st : Int) : (stB st t.1 = false ∧ Hid (tubeB st t = false)) ∨ ((stB st t.1 = true ∧ stB st t.2.1 = false) ∧ Hid (tubeB st t = false)) ∨
    ((stB st t.1 = true ∧ stB st t.2.1 = true ∧ (t.1 != t.2.1) = false) ∧ Hid (tubeB st t = false)) ∨
    ((stB st t.1 = true ∧ stB st t.2.1 = true ∧ (t.1 != t.2.1) = true ∧ ¬ 1 ≤ t.2.2) ∧ Hid (tubeB st t = false)) ∨
    ((stB st t.1 = true ∧ stB st t.2.1 = true ∧ (t.1 != t.2.1) = true ∧ 1 ≤ t.2.2 ∧ ¬ t.2.2 ≤ 2000) ∧ Hid (tubeB st t = false)) ∨
    ((stB st t.1 = true ∧ stB st t.2.1 = true ∧ (t.1 != t.2.1) = true ∧ 1 ≤ t.2.2 ∧ t.2.2 ≤ 2000) ∧ Hid (tubeB st t = true)) := by
  unfold stB tubeB Hid
  simp
  omega
theorem fitsNet_any (t : T3) (st : Int) (a : Option Addr) (n c : Nat) (w : World) : Calls Try.prog 20 #[.agg #[.int .i64 st, .slice a n c], .agg #[.int .i64 t.1, .int .i64 t.2.1, .int .i64 t.2.2]] w fun e w' => e = .returned (.bool (tubeB st t)) ∧ Below w.heap.size w w' := by
  rcases fitsNet_ways t st with ⟨p1, Hr⟩ | ⟨⟨p1, p2⟩, Hr⟩ | ⟨⟨p1, p2, p3⟩, Hr⟩ | ⟨⟨p1, p2, p3, p4⟩, Hr⟩ | ⟨⟨p1, p2, p3, p4, p5⟩, Hr⟩ | ⟨⟨p1, p2, p3, p4, p5⟩, Hr⟩
  all_goals
    go_enter Try.func20, Try.ntmps20
    go_wp2_with (go_at_call 30; refine (isStation_any _ _ _ _ _ _).mono ?_; rintro e w1 ⟨rfl, rfl⟩)
    go_ret
    exact ⟨ret_bool (by first | exact Hr.out.symm | (rw [Hr.out]; simp; omega)), by repeat (first | exact Below.refl _ _ | refine Below.alloc ?_ (by simp; try omega) _)⟩
end Go.Proofs.Ytbndminegokffaa
