/-
  The walks of SameNet: the model's and the program's (by slices.Equal at tubes): both return whether the stations are equal and the tubes are.
-/
import Derived.Test.YtenjigifjkfiaaaNetTo
import Derived.Deep.RegionHeld3
import Derived.Laws.StructEq
namespace Go.Proofs.Ytenjigifjkfiaaa
open Go.RowKit

theorem neqTube (t u : T3) (w : World) : (binOp .neq 36 (.agg #[.int .i64 t.1, .int .i64 t.2.1, .int .i64 t.2.2]) (.agg #[.int .i64 u.1, .int .i64 u.2.1, .int .i64 u.2.2])).run Try.prog w = .ok (.bool (!(t == u))) w := by
  obtain ⟨t1, t2, t3⟩ := t
  obtain ⟨u1, u2, u3⟩ := u
  have hS : Try.prog.underlying 36 = some (.struct (Try.prog.fieldsOf 36)) := by kernel_rfl
  have hp : Try.prog.stoodInHeld 36 = false := by kernel_rfl
  rw [run_neq_struct, run_equalIn_struct w 9999 _ _ _ hS hp]
  simp only [Program.fieldsOf, Try.underlying36]
  by_cases h1 : t1 = u1 <;> by_cases h2 : t2 = u2 <;> by_cases h3 : t3 = u3 <;> simp [go_sem, h1, h2, h3]
attribute [local go_sem ↓] neqTube
end Go.Proofs.Ytenjigifjkfiaaa
