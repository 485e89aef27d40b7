/-
  The walk of the law FnExactCheapestHour: it returns true at every input.
-/
import Derived.Test.YtiilgeoahpnkpaaBlow11
import Derived.Test.YtiilgeoahpnkpaaBlowerRec
import Derived.Test.YtiilgeoahpnkpaaNums
namespace Go.Proofs.Ytiilgeoahpnkpaa.fnExactCheapestHour
open Go.RowKit
set_option maxRecDepth 20000 in
set_option maxHeartbeats 8000000 in
theorem walk {w : World} (v0 : Value) (ts0 : List TBlower) (hw0 : BlowersIn w v0 ts0) (f1 : Int) (wf1 : (Lit.int .i64 f1).wf = true) :
    Calls Try.prog 11 #[v0, .int .i64 f1] w fun e w' => e = .returned (.bool true) ∧ Below w.heap.size w w' := by
  obtain ⟨a0, n0, c0, rfl, hn0, hmax0, hr0, wf0⟩ := hw0
  have WF0 := Lib.hid wf0
  have HA0 : Hid (∀ w', Below w.heap.size w w' → RR 3 cBlower w' a0 ts0) := fun w' h => hr0.below h
  have HM0 := Lib.hid hmax0
  unfold maxLen at hmax0
  clear hr0 wf0
  have BB : Hid (Below w.heap.size w w) := Below.refl _ _
  go_enter Try.func11, Try.ntmps11
  go_wp2_with fail
  refine (szBlowerS_any _ _ _ 1048576 _ (by omega) (by omega) HM0.out).mono ?_
  rintro e w1 ⟨rfl, rfl⟩
  have hbd := leftOf_bounds 1048576 n0 (by omega)
  generalize hL : leftOf 1048576 n0 = L0 at hbd ⊢
  clear hL
  by_cases hneg : L0 < 0
  · clear hbd
    go_wp2
    go_ret
    exact ⟨rfl, BB.out⟩
  obtain ⟨_, hle0, hall⟩ := hbd
  have hs0 : n0 ≤ 1048576 := by have := hall (by omega); omega
  have hge0 : 0 ≤ L0 := by omega
  clear hneg hall
  obtain ⟨r0, r1, hres⟩ : ∃ r0 r1, cheapOf ts0 f1 = (r0, r1) := ⟨_, _, rfl⟩
  have RES := Lib.hid hres
  clear hres
  go_wp2_with fail
  refine (toBlowerS_any _ ts0 _ _ _ hn0 (HA0.out _ BB.out) hs0).mono ?_
  rintro e w1 ⟨g0s, rfl, hg, hbx, ho⟩
  have hb1 := Lib.hid hbx
  replace BB := Lib.hid (Below.trans BB.out (Hid.out hb1 |>.mono BB.out.size))
  clear hbx hg
  have O0s := Lib.hid (Row.of ho)
  clear ho
  go_wp2_with fail
  refine (specCheapestHour_any _ ts0 hn0 (own_RR cBlower_len hn0 O0s.out.1) hs0 WF0 f1 wf1).mono ?_
  rintro e w2 ⟨rfl, hbx⟩
  rw [RES.out]
  dsimp only
  have hb2 := Lib.hid hbx
  replace BB := Lib.hid (Below.trans BB.out (Hid.out hb2 |>.mono BB.out.size))
  clear hbx
  go_wp2_with fail
  refine (toBlowerS_any _ ts0 _ _ _ hn0 (HA0.out _ BB.out) hs0).mono ?_
  rintro e w3 ⟨g0x, rfl, hg, hbx, ho⟩
  have hb3 := Lib.hid hbx
  replace BB := Lib.hid (Below.trans BB.out (Hid.out hb3 |>.mono BB.out.size))
  clear hbx hg
  have O0x := Lib.hid (Row.of ho)
  clear ho
  go_wp2_with fail
  refine (implCheapestHour_any _ ts0 hn0 (own_RR cBlower_len hn0 O0x.out.1) hs0 WF0 f1 wf1).mono ?_
  rintro e w4 ⟨rfl, hbx⟩
  rw [RES.out]
  dsimp only
  have hb4 := Lib.hid hbx
  replace BB := Lib.hid (Below.trans BB.out (Hid.out hb4 |>.mono BB.out.size))
  clear hbx
  go_wp2_with fail
  refine (toBlowerS_any _ ts0 _ _ _ hn0 (HA0.out _ BB.out) hs0).mono ?_
  rintro e w5 ⟨g0y0, rfl, hg, hbx, ho⟩
  have hb5 := Lib.hid hbx
  replace BB := Lib.hid (Below.trans BB.out (Hid.out hb5 |>.mono BB.out.size))
  clear hbx hg
  have O0y0 := Lib.hid (Row.of ho)
  clear ho
  go_wp2_with fail
  refine (eqBlowerS_any _ _ ts0 ts0 _ _ _ _ _ hn0 hn0 (own_RR cBlower_len hn0 (O0x.out.below (two_worlds hb4.out hb5.out)).1) (own_RR cBlower_len hn0 O0y0.out.1) HM0.out).mono ?_
  rintro e w6 ⟨rfl, hbx⟩
  rw [beqT ts0]
  have hb6 := Lib.hid hbx
  replace BB := Lib.hid (Below.trans BB.out (Hid.out hb6 |>.mono BB.out.size))
  clear hbx
  go_wp2
  go_ret
  exact ⟨rfl, BB.out⟩
end Go.Proofs.Ytiilgeoahpnkpaa.fnExactCheapestHour
