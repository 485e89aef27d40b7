/-
  The walk of heldZoned.
-/
import Derived.Test.YtghpefdleiebmaaZoned
namespace Go.Proofs.Ytghpefdleiebmaa
open Go.RowKit
set_option maxHeartbeats 1000000 in
theorem heldZoned_any (a b : Option Addr) (z : Int) (n c m d : Nat) (k : Int) (w : World) (ha : RI w a (marksI k n)) (hb : RR 3 cChange w b (marksChange (k + (n : Int)) m)) (hmax : n ≤ 1048577) (hmax2 : m ≤ 1048577) (h0 : 0 ≤ k) (h1 : k ≤ 1000000000000000) :
    Calls Try.prog 31 #[.agg #[.int .i64 z, .slice a n c, .slice b m d], .int .i64 k] w fun e w' => e = .returned (.int .i64 (k + (n : Int) + 3 * (m : Int))) ∧ Below w.heap.size w w' := by
  have HA : Hid (∀ W, Below w.heap.size w W → RI W a (marksI k n)) := fun W h => ha.below h
  have HB : Hid (∀ W, Below w.heap.size w W → RR 3 cChange W b (marksChange (k + (n : Int)) m)) := fun W h => hb.below h
  have hk1 : ¬ k + (n : Int) < 0 := by omega
  have hk2 : ¬ k + (n : Int) + 3 * (m : Int) < 0 := by omega
  clear ha hb
  go_enter Try.func31, Try.ntmps31
  go_wp2_with fail
  refine (heldInt64S_any a n c k _ (HA.out _ (by repeat (first | exact Below.refl _ _ | refine Below.alloc ?_ (by simp; try omega) _ | refine Below.setCell ?_ (by simp; try omega) _))) hmax h0 (by omega)).mono ?_
  rintro e w1 ⟨rfl, rfl⟩
  go_wp2_with fail
  refine (heldChangeS_any b m d _ _ (HB.out _ (by repeat (first | exact Below.refl _ _ | refine Below.alloc ?_ (by simp; try omega) _ | refine Below.setCell ?_ (by simp; try omega) _))) hmax2 (by omega) (by omega)).mono ?_
  rintro e w1 ⟨rfl, rfl⟩
  go_wp2
  go_ret
  exact ⟨rfl, (by repeat (first | exact Below.refl _ _ | refine Below.alloc ?_ (by simp; try omega) _ | refine Below.setCell ?_ (by simp; try omega) _))⟩
end Go.Proofs.Ytghpefdleiebmaa
