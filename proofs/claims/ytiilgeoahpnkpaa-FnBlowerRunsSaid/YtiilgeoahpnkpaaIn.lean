/-
  The walk of l00In, the model's test of bounds.
-/
import Derived.Test.YtiilgeoahpnkpaaProg
import Derived.Test.YtiilgeoahpnkpaaBase
import Derived.WalkKit
import Derived.Outline
import Derived.LoopTactic
import Derived.BigQuiet
import Derived.Deep.QuietTactic
namespace Go.Proofs.Ytiilgeoahpnkpaa
open Go.RowKit

theorem l00In_any (x lo hi : Int) (w : World) : Calls Try.prog 74 #[.int .i64 x, .int .i64 lo, .int .i64 hi] w fun e w' => e = .returned (.bool (inB x lo hi)) ∧ w = w' := by
  by_cases a : lo ≤ x <;> by_cases b : x ≤ hi
  all_goals
    go_enter Try.func74, Try.ntmps74
    go_wp2
    go_ret
    exact ⟨ret_bool (by simp [inB, *]), rfl⟩
end Go.Proofs.Ytiilgeoahpnkpaa
