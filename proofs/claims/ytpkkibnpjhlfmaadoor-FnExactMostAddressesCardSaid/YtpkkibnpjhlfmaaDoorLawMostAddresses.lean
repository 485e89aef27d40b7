/-
  The walk of the law FnExactMostAddresses: it returns true at every input.
-/
import Derived.Test.YtpkkibnpjhlfmaaDoorMostSpec2
import Derived.Test.YtpkkibnpjhlfmaaDoorBitLaid
import Derived.Test.YtpkkibnpjhlfmaaDoorRows
namespace Go.Proofs.YtpkkibnpjhlfmaaDoor.fnExactMostAddresses
open Go.RowKit
set_option maxRecDepth 100000 in
set_option maxHeartbeats 4000000 in
theorem walk {w : World} (f0 : Int) (_wf0 : (Lit.int .i64 f0).wf = true) (f1 : Int) (_wf1 : (Lit.int .i64 f1).wf = true) (f2 : Int) (_wf2 : (Lit.int .i64 f2).wf = true) (_hL : laidMetH Tryd.prog Rows.fnExactMostAddressesRow.laid w) :
    Calls Tryd.prog 5 #[.int .i64 f0, .int .i64 f1, .int .i64 f2] w fun e w' => e = .returned (.bool true) ∧ Below w.heap.size w w' := by
  have HT : Hid (∀ W, Below w.heap.size w W → BitTab W) := by
    rw [MakeChecks.laidMetH_plain _ _ _ (by kernel_rfl)] at _hL
    exact fun W hB => (bit_of_laid _hL).below hB
  clear _hL
  have H1 := fun W => specMost_any f0 f1 f2 W
  have H2 := fun W hT => implMost_any f0 f1 f2 W hT
  generalize (mostAns f0 f1 f2).1 = a at H1 H2
  generalize (mostAns f0 f1 f2).2 = b at H1 H2
  go_enter Tryd.func5, Tryd.ntmps5
  go_wp2_with (first | (go_at_call 30; refine (H1 _).mono ?_; rintro e w1 ⟨rfl, hb1⟩) | (go_at_call 29; refine (H2 _ (fun W hB => HT.out W (two_worlds' hb1 hB))).mono ?_; rintro e w2 ⟨rfl, hb2⟩))
  go_ret
  exact ⟨rfl, two_worlds' hb1 hb2⟩
end Go.Proofs.YtpkkibnpjhlfmaaDoor.fnExactMostAddresses
