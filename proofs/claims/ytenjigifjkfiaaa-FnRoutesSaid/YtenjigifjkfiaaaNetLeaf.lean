/-
  The walks of the small functions on networks: l00In, l02Tube, isStation, isTube, fitsNet, eqTube, toTube, szTubeS, szNet.
-/
import Derived.Test.YtenjigifjkfiaaaProg
import Derived.Test.YtenjigifjkfiaaaNetMath
import Derived.Test.YtenjigifjkfiaaaIn
import Derived.WalkKit
import Derived.Lib.Hide
import Derived.Outline
import Derived.LoopTactic
import Derived.BigQuiet
import Derived.Deep.QuietTactic
namespace Go.Proofs.Ytenjigifjkfiaaa
open Go.RowKit

theorem isStation_any (st k : Int) (a : Option Addr) (n c : Nat) (w : World) : Calls Try.prog 76 #[.agg #[.int .i64 st, .slice a n c], .int .i64 k] w fun e w' => e = .returned (.bool (stB st k)) ∧ w.alloc (.cells #[.int .i64 st, .slice a n c] 26) = w' := by
  by_cases h1 : 0 ≤ k <;> by_cases h2 : k < st
  all_goals
    go_enter Try.func76, Try.ntmps76
    go_wp2
    go_ret
    exact ⟨ret_bool (by simp [stB, *]), rfl⟩
theorem eqTube_any (t u : T3) (w : World) : Calls Try.prog 78 #[.agg #[.int .i64 t.1, .int .i64 t.2.1, .int .i64 t.2.2], .agg #[.int .i64 u.1, .int .i64 u.2.1, .int .i64 u.2.2]] w fun e w' => e = .returned (.bool (t == u)) ∧ Below w.heap.size w w' := by
  obtain ⟨t1, t2, t3⟩ := t
  obtain ⟨u1, u2, u3⟩ := u
  cases h1 : (t1 == u1) <;> cases h2 : (t2 == u2) <;> cases h3 : (t3 == u3)
  all_goals
    go_enter Try.func78, Try.ntmps78
    go_wp2
    go_ret
    exact ⟨ret_bool (by simp_all), ((Below.refl _ _).alloc (Nat.le_refl _) _).alloc (by simp) _⟩
theorem l02Tube_ways (t : T3) (st : Int) : (inB t.1 0 (st - 1) = false ∧ Hid (tubeB st t = false)) ∨ ((inB t.1 0 (st - 1) = true ∧ inB t.2.1 0 (st - 1) = false) ∧ Hid (tubeB st t = false)) ∨
    ((inB t.1 0 (st - 1) = true ∧ inB t.2.1 0 (st - 1) = true ∧ (t.1 != t.2.1) = false) ∧ Hid (tubeB st t = false)) ∨
    ((inB t.1 0 (st - 1) = true ∧ inB t.2.1 0 (st - 1) = true ∧ (t.1 != t.2.1) = true ∧ inB t.2.2 1 2000 = false) ∧ Hid (tubeB st t = false)) ∨
    ((inB t.1 0 (st - 1) = true ∧ inB t.2.1 0 (st - 1) = true ∧ (t.1 != t.2.1) = true ∧ inB t.2.2 1 2000 = true) ∧ Hid (tubeB st t = true)) := by
  unfold inB tubeB Hid
  simp
  omega
theorem l02Tube_any (t : T3) (st : Int) (w : World) (h2 : 2 ≤ st) (h10 : st ≤ 10) : Calls Try.prog 79 #[.agg #[.int .i64 t.1, .int .i64 t.2.1, .int .i64 t.2.2], .int .i64 st] w fun e w' => e = .returned (.bool (tubeB st t)) ∧ Below w.heap.size w w' := by
  rcases l02Tube_ways t st with ⟨a, Hr⟩ | ⟨⟨a, b⟩, Hr⟩ | ⟨⟨a, b, c⟩, Hr⟩ | ⟨⟨a, b, c, d⟩, Hr⟩ | ⟨⟨a, b, c, d⟩, Hr⟩
  all_goals
    go_enter Try.func79, Try.ntmps79
    go_wp2_with (go_at_call 74; refine (l00In_any _ _ _ _).mono ?_; rintro e w' ⟨rfl, rfl⟩)
    go_ret
    exact ⟨ret_bool Hr.out.symm, (Below.refl _ _).alloc (Nat.le_refl _) _⟩
theorem fitsNet_ways (t : T3) (st : Int) : (stB st t.1 = false ∧ Hid (tubeB st t = false)) ∨ ((stB st t.1 = true ∧ stB st t.2.1 = false) ∧ Hid (tubeB st t = false)) ∨
    ((stB st t.1 = true ∧ stB st t.2.1 = true ∧ (t.1 != t.2.1) = false) ∧ Hid (tubeB st t = false)) ∨
    ((stB st t.1 = true ∧ stB st t.2.1 = true ∧ (t.1 != t.2.1) = true ∧ ¬ 1 ≤ t.2.2) ∧ Hid (tubeB st t = false)) ∨
    ((stB st t.1 = true ∧ stB st t.2.1 = true ∧ (t.1 != t.2.1) = true ∧ 1 ≤ t.2.2 ∧ ¬ t.2.2 ≤ 2000) ∧ Hid (tubeB st t = false)) ∨
    ((stB st t.1 = true ∧ stB st t.2.1 = true ∧ (t.1 != t.2.1) = true ∧ 1 ≤ t.2.2 ∧ t.2.2 ≤ 2000) ∧ Hid (tubeB st t = true)) := by
  unfold stB tubeB Hid
  simp
  omega
theorem fitsNet_any (t : T3) (st : Int) (a : Option Addr) (n c : Nat) (w : World) : Calls Try.prog 85 #[.agg #[.int .i64 st, .slice a n c], .agg #[.int .i64 t.1, .int .i64 t.2.1, .int .i64 t.2.2]] w fun e w' => e = .returned (.bool (tubeB st t)) ∧ Below w.heap.size w w' := by
  rcases fitsNet_ways t st with ⟨p1, Hr⟩ | ⟨⟨p1, p2⟩, Hr⟩ | ⟨⟨p1, p2, p3⟩, Hr⟩ | ⟨⟨p1, p2, p3, p4⟩, Hr⟩ | ⟨⟨p1, p2, p3, p4, p5⟩, Hr⟩ | ⟨⟨p1, p2, p3, p4, p5⟩, Hr⟩
  all_goals
    go_enter Try.func85, Try.ntmps85
    go_wp2_with (go_at_call 76; refine (isStation_any _ _ _ _ _ _).mono ?_; rintro e w1 ⟨rfl, rfl⟩)
    go_ret
    exact ⟨ret_bool (by first | exact Hr.out.symm | (rw [Hr.out]; simp; omega)), by repeat (first | exact Below.refl _ _ | refine Below.alloc ?_ (by simp; try omega) _)⟩
end Go.Proofs.Ytenjigifjkfiaaa
