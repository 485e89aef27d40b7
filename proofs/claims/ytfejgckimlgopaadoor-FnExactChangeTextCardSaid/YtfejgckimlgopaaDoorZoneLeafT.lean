/-
  The walks of the small functions on changes: l09Change, isOf.
-/
import Derived.Test.YtfejgckimlgopaaDoorChangeRec
import Derived.Test.YtfejgckimlgopaaDoorZMath
import Derived.Test.YtfejgckimlgopaaDoorIn
namespace Go.Proofs.YtfejgckimlgopaaDoor
open Go.RowKit

theorem isWithin_any (x lo hi : Int) (w : World) : Calls Tryd.prog 62 #[.int .i64 x, .int .i64 lo, .int .i64 hi] w fun e w' => e = .returned (.bool (inB x lo hi)) ∧ w = w' := by
  by_cases a : lo ≤ x <;> by_cases b : x ≤ hi
  all_goals
    go_enter Tryd.func62, Tryd.ntmps62
    go_wp2
    go_ret
    exact ⟨ret_bool (by simp [inB, *]), rfl⟩
theorem isOf_any (c : C3) (z : Int) (w : World) (hz : -1000000 ≤ z ∧ z ≤ 1000000) : Calls Tryd.prog 48 #[.agg #[.int .i64 c.1, .int .i64 c.2.1, .int .i64 c.2.2], .int .i64 z] w fun e w' => e = .returned (.bool (chB z c)) ∧ Below w.heap.size w w' := by
  obtain ⟨c1, c2, c3⟩ := c
  have hr : (inB c1 0 10000 = false ∧ chB z (c1, c2, c3) = false) ∨ (inB c1 0 10000 = true ∧ inB c2 0 (z - 1) = false ∧ chB z (c1, c2, c3) = false) ∨ (inB c1 0 10000 = true ∧ inB c2 0 (z - 1) = true ∧ inB c3 (-100) 100 = false ∧ chB z (c1, c2, c3) = false) ∨ (inB c1 0 10000 = true ∧ inB c2 0 (z - 1) = true ∧ inB c3 (-100) 100 = true ∧ chB z (c1, c2, c3) = true) := by
    unfold chB
    cases inB c1 0 10000 <;> cases inB c2 0 (z - 1) <;> cases inB c3 (-100) 100 <;> simp
  rcases hr with ⟨a, hr⟩ | ⟨a, b, hr⟩ | ⟨a, b, d, hr⟩ | ⟨a, b, d, hr⟩
  all_goals
    have HR := Lib.hid hr
    clear hr
    go_enter Tryd.func48, Tryd.ntmps48
    go_wp2_with (go_at_call 62; refine (isWithin_any _ _ _ _).mono ?_; rintro e w' ⟨rfl, rfl⟩)
    go_ret
    exact ⟨ret_bool HR.out.symm, (by repeat (first | exact Below.refl _ _ | refine Below.alloc ?_ (by simp; try omega) _ | refine Below.setCell ?_ (by simp; try omega) _))⟩
theorem l09Change_any (c : C3) (z : Int) (b off : Nat) (w : World) (hz : -1000000 ≤ z ∧ z ≤ 1000000) (h0 : w.cell? ⟨b, off, none⟩ = some (.int .i64 c.1)) (h1 : w.cell? ⟨b, off + 1, none⟩ = some (.int .i64 c.2.1)) (h2 : w.cell? ⟨b, off + 2, none⟩ = some (.int .i64 c.2.2)) :
    Calls Tryd.prog 53 #[.int .i64 z, .pointer (some ⟨b, off, none⟩)] w fun e w' => e = .returned (.bool (chB z c)) ∧ w = w' := by
  obtain ⟨c1, c2, c3⟩ := c
  dsimp only at h0 h1 h2
  have hr : (inB c1 0 10000 = false ∧ chB z (c1, c2, c3) = false) ∨ (inB c1 0 10000 = true ∧ inB c2 0 (z - 1) = false ∧ chB z (c1, c2, c3) = false) ∨ (inB c1 0 10000 = true ∧ inB c2 0 (z - 1) = true ∧ inB c3 (-100) 100 = false ∧ chB z (c1, c2, c3) = false) ∨ (inB c1 0 10000 = true ∧ inB c2 0 (z - 1) = true ∧ inB c3 (-100) 100 = true ∧ chB z (c1, c2, c3) = true) := by
    unfold chB
    cases inB c1 0 10000 <;> cases inB c2 0 (z - 1) <;> cases inB c3 (-100) 100 <;> simp
  rcases hr with ⟨a, hr⟩ | ⟨a, b, hr⟩ | ⟨a, b, d, hr⟩ | ⟨a, b, d, hr⟩
  all_goals
    have HR := Lib.hid hr
    clear hr
    go_enter Tryd.func53, Tryd.ntmps53
    go_wp2_with (go_at_call 67; refine (l00In_any _ _ _ _).mono ?_; rintro e w' ⟨rfl, rfl⟩)
    go_ret
    exact ⟨ret_bool HR.out.symm, rfl⟩
end Go.Proofs.YtfejgckimlgopaaDoor
