/-
  The walk of the law FnExactValidNeeds: it returns true at every input.
-/
import Derived.Test.YtiilgeoahpnkpaaBlow1
import Derived.Test.YtiilgeoahpnkpaaNums
namespace Go.Proofs.Ytiilgeoahpnkpaa.fnExactValidNeeds
open Go.RowKit
set_option maxRecDepth 20000 in
set_option maxHeartbeats 8000000 in
theorem walk {w : World} (v0 : Value) (l0 : List Int) (hw0 : NumsIn w v0 l0) :
    Calls Try.prog 6 #[v0] w fun e w' => e = .returned (.bool true) ∧ Below w.heap.size w w' := by
  obtain ⟨a0, n0, c0, rfl, hn0, hmax0, hr0, wf0⟩ := hw0
  have WF0 := Lib.hid wf0
  have HA0 : Hid (∀ w', Below w.heap.size w w' → RI w' a0 l0) := fun w' h => hr0.below h
  have HM0 := Lib.hid hmax0
  unfold maxLen at hmax0
  clear hr0 wf0
  have BB : Hid (Below w.heap.size w w) := Below.refl _ _
  go_enter Try.func6, Try.ntmps6
  by_cases hbig0 : 1048576 < n0
  · go_wp2
    go_ret
    exact ⟨rfl, BB.out⟩
  have hs0 : n0 ≤ 1048576 := by omega
  clear hbig0
  obtain ⟨r0, hres⟩ : ∃ r0, neB l0 = r0 := ⟨_, rfl⟩
  have RES := Lib.hid hres
  clear hres
  go_wp2_with fail
  refine (toInt64S_any _ l0 _ _ _ hn0 (HA0.out _ BB.out) hs0).mono ?_
  rintro e w1 ⟨g0s, rfl, hg, hbx, ho⟩
  have hb1 := Lib.hid hbx
  replace BB := Lib.hid (Below.trans BB.out (Hid.out hb1 |>.mono BB.out.size))
  clear hbx hg
  have O0s := Lib.hid (Row.of ho)
  clear ho
  go_wp2_with fail
  refine (specValidNeeds_any _ l0 hn0 (rowI_RI hn0 O0s.out.1) hs0 WF0).mono ?_
  rintro e w2 ⟨rfl, hbx⟩
  rw [RES.out]
  dsimp only
  have hb2 := Lib.hid hbx
  replace BB := Lib.hid (Below.trans BB.out (Hid.out hb2 |>.mono BB.out.size))
  clear hbx
  go_wp2_with fail
  refine (toInt64S_any _ l0 _ _ _ hn0 (HA0.out _ BB.out) hs0).mono ?_
  rintro e w3 ⟨g0x, rfl, hg, hbx, ho⟩
  have hb3 := Lib.hid hbx
  replace BB := Lib.hid (Below.trans BB.out (Hid.out hb3 |>.mono BB.out.size))
  clear hbx hg
  have O0x := Lib.hid (Row.of ho)
  clear ho
  go_wp2_with fail
  refine (implValidNeeds_any _ l0 hn0 (rowI_RI hn0 O0x.out.1) hs0 WF0).mono ?_
  rintro e w4 ⟨rfl, hbx⟩
  rw [RES.out]
  dsimp only
  have hb4 := Lib.hid hbx
  replace BB := Lib.hid (Below.trans BB.out (Hid.out hb4 |>.mono BB.out.size))
  clear hbx
  go_wp2_with fail
  refine (toInt64S_any _ l0 _ _ _ hn0 (HA0.out _ BB.out) hs0).mono ?_
  rintro e w5 ⟨g0y0, rfl, hg, hbx, ho⟩
  have hb5 := Lib.hid hbx
  replace BB := Lib.hid (Below.trans BB.out (Hid.out hb5 |>.mono BB.out.size))
  clear hbx hg
  have O0y0 := Lib.hid (Row.of ho)
  clear ho
  go_wp2_with fail
  refine (eqInt64S_any _ _ l0 l0 _ _ _ _ _ hn0 hn0 (rowI_RI hn0 (O0x.out.below (two_worlds hb4.out hb5.out)).1) (rowI_RI hn0 O0y0.out.1) HM0.out).mono ?_
  rintro e w6 ⟨rfl, hbx⟩
  rw [beqT l0]
  have hb6 := Lib.hid hbx
  replace BB := Lib.hid (Below.trans BB.out (Hid.out hb6 |>.mono BB.out.size))
  clear hbx
  go_wp2
  go_ret
  exact ⟨rfl, BB.out⟩
end Go.Proofs.Ytiilgeoahpnkpaa.fnExactValidNeeds
