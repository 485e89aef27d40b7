/-
  The walk of the law FnExactDistanceOf: it returns true at every input.
-/
import Derived.Test.YtomemelgmcahnaaDoorDistance
import Derived.Test.YtomemelgmcahnaaDoorRows
namespace Go.Proofs.YtomemelgmcahnaaDoor.fnExactDistanceOf
open Go.RowKit
set_option maxRecDepth 100000 in
set_option maxHeartbeats 2000000 in
theorem walk {w : World} (a : ByteArray) (_wa : a.size ≤ maxLen) (b : ByteArray) (_wb : b.size ≤ maxLen) (_hL : laidMetH Tryd.prog Rows.fnExactDistanceOfRow.laid w) :
    Calls Tryd.prog 6 #[.string a, .string b] w fun e w' => e = .returned (.bool true) ∧ Below w.heap.size w w' := by
  by_cases h1 : 1048576 < a.size
  · go_enter Tryd.func6, Tryd.ntmps6
    go_wp2
    go_ret
    exact ⟨rfl, Below.refl _ _⟩
  · by_cases h2 : 1048576 < b.size
    · go_enter Tryd.func6, Tryd.ntmps6
      go_wp2
      go_ret
      exact ⟨rfl, Below.refl _ _⟩
    · have H1 := specDistance_any a b (by omega) (by omega)
      have H2 := implDistance_any a b (by omega) (by omega)
      generalize distP a b = d at H1 H2
      obtain ⟨x, y⟩ := d
      go_enter Tryd.func6, Tryd.ntmps6
      go_wp2_with (first | (go_at_call 24; refine (H1 _).mono ?_; rintro e w1 ⟨rfl, hb1⟩) | (go_at_call 23; refine (H2 _).mono ?_; rintro e w2 ⟨rfl, hb2⟩))
      go_ret
      exact ⟨rfl, two_worlds hb1 hb2⟩
end Go.Proofs.YtomemelgmcahnaaDoor.fnExactDistanceOf
