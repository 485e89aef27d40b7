/-
  The walk of the law FnExactStartsOfBlower: it returns true at every input.
-/
import Derived.Test.YtiilgeoahpnkpaaBlow8
import Derived.Test.YtiilgeoahpnkpaaBlowerRec
import Derived.Test.YtiilgeoahpnkpaaNums
namespace Go.Proofs.Ytiilgeoahpnkpaa.fnExactStartsOfBlower
open Go.RowKit
set_option maxRecDepth 20000 in
set_option maxHeartbeats 8000000 in
theorem walk {w : World} (v0 : Value) (ts0 : List TBlower) (hw0 : BlowersIn w v0 ts0) (v1 : Value) (l1 : List Int) (hw1 : NumsIn w v1 l1) (f2 : Int) (wf2 : (Lit.int .i64 f2).wf = true) :
    Calls Try.prog 12 #[v0, v1, .int .i64 f2] w fun e w' => e = .returned (.bool true) ∧ Below w.heap.size w w' := by
  obtain ⟨a0, n0, c0, rfl, hn0, hmax0, hr0, wf0⟩ := hw0
  have WF0 := Lib.hid wf0
  have HA0 : Hid (∀ w', Below w.heap.size w w' → RR 3 cBlower w' a0 ts0) := fun w' h => hr0.below h
  have HM0 := Lib.hid hmax0
  unfold maxLen at hmax0
  clear hr0 wf0
  obtain ⟨a1, n1, c1, rfl, hn1, hmax1, hr1, wf1⟩ := hw1
  have WF1 := Lib.hid wf1
  have HA1 : Hid (∀ w', Below w.heap.size w w' → RI w' a1 l1) := fun w' h => hr1.below h
  have HM1 := Lib.hid hmax1
  unfold maxLen at hmax1
  clear hr1 wf1
  have BB : Hid (Below w.heap.size w w) := Below.refl _ _
  go_enter Try.func12, Try.ntmps12
  by_cases hbig1 : 1048576 < n1
  · go_wp2
    go_ret
    exact ⟨rfl, BB.out⟩
  have hs1 : n1 ≤ 1048576 := by omega
  clear hbig1
  go_wp2_with fail
  refine (szBlowerS_any _ _ _ 1048576 _ (by omega) (by omega) HM0.out).mono ?_
  rintro e w1 ⟨rfl, rfl⟩
  have hbd := leftOf_bounds 1048576 n0 (by omega)
  generalize hL : leftOf 1048576 n0 = L0 at hbd ⊢
  clear hL
  by_cases hneg : L0 < 0
  · clear hbd
    go_wp2
    go_ret
    exact ⟨rfl, BB.out⟩
  obtain ⟨_, hle0, hall⟩ := hbd
  have hs0 : n0 ≤ 1048576 := by have := hall (by omega); omega
  have hge0 : 0 ≤ L0 := by omega
  clear hneg hall
  obtain ⟨r0, r1, hres⟩ : ∃ r0 r1, startOf ts0 l1 f2 = (r0, r1) := ⟨_, _, rfl⟩
  have RES := Lib.hid hres
  clear hres
  go_wp2_with fail
  refine (toBlowerS_any _ ts0 _ _ _ hn0 (HA0.out _ BB.out) hs0).mono ?_
  rintro e w1 ⟨g0s, rfl, hg, hbx, ho⟩
  have hb1 := Lib.hid hbx
  replace BB := Lib.hid (Below.trans BB.out (Hid.out hb1 |>.mono BB.out.size))
  clear hbx hg
  have O0s := Lib.hid (Row.of ho)
  clear ho
  go_wp2_with fail
  refine (toInt64S_any _ l1 _ _ _ hn1 (HA1.out _ BB.out) hs1).mono ?_
  rintro e w2 ⟨g1s, rfl, hg, hbx, ho⟩
  have hb2 := Lib.hid hbx
  replace BB := Lib.hid (Below.trans BB.out (Hid.out hb2 |>.mono BB.out.size))
  clear hbx hg
  have O1s := Lib.hid (Row.of ho)
  clear ho
  go_wp2_with fail
  refine (specStartsOfBlower_any _ ts0 hn0 (own_RR cBlower_len hn0 (O0s.out.below hb2.out).1) hs0 WF0 l1 hn1 (rowI_RI hn1 O1s.out.1) hs1 WF1 f2 wf2).mono ?_
  rintro e w3 ⟨rfl, hbx⟩
  rw [RES.out]
  dsimp only
  have hb3 := Lib.hid hbx
  replace BB := Lib.hid (Below.trans BB.out (Hid.out hb3 |>.mono BB.out.size))
  clear hbx
  go_wp2_with fail
  refine (toBlowerS_any _ ts0 _ _ _ hn0 (HA0.out _ BB.out) hs0).mono ?_
  rintro e w4 ⟨g0x, rfl, hg, hbx, ho⟩
  have hb4 := Lib.hid hbx
  replace BB := Lib.hid (Below.trans BB.out (Hid.out hb4 |>.mono BB.out.size))
  clear hbx hg
  have O0x := Lib.hid (Row.of ho)
  clear ho
  go_wp2_with fail
  refine (toInt64S_any _ l1 _ _ _ hn1 (HA1.out _ BB.out) hs1).mono ?_
  rintro e w5 ⟨g1x, rfl, hg, hbx, ho⟩
  have hb5 := Lib.hid hbx
  replace BB := Lib.hid (Below.trans BB.out (Hid.out hb5 |>.mono BB.out.size))
  clear hbx hg
  have O1x := Lib.hid (Row.of ho)
  clear ho
  go_wp2_with fail
  refine (implStartsOfBlower_any _ ts0 hn0 (own_RR cBlower_len hn0 (O0x.out.below hb5.out).1) hs0 WF0 l1 hn1 (rowI_RI hn1 O1x.out.1) hs1 WF1 f2 wf2).mono ?_
  rintro e w6 ⟨rfl, hbx⟩
  rw [RES.out]
  dsimp only
  have hb6 := Lib.hid hbx
  replace BB := Lib.hid (Below.trans BB.out (Hid.out hb6 |>.mono BB.out.size))
  clear hbx
  go_wp2_with fail
  refine (toBlowerS_any _ ts0 _ _ _ hn0 (HA0.out _ BB.out) hs0).mono ?_
  rintro e w7 ⟨g0y0, rfl, hg, hbx, ho⟩
  have hb7 := Lib.hid hbx
  replace BB := Lib.hid (Below.trans BB.out (Hid.out hb7 |>.mono BB.out.size))
  clear hbx hg
  have O0y0 := Lib.hid (Row.of ho)
  clear ho
  go_wp2_with fail
  refine (eqBlowerS_any _ _ ts0 ts0 _ _ _ _ _ hn0 hn0 (own_RR cBlower_len hn0 (O0x.out.below (two_worlds (two_worlds hb5.out hb6.out) hb7.out)).1) (own_RR cBlower_len hn0 O0y0.out.1) HM0.out).mono ?_
  rintro e w8 ⟨rfl, hbx⟩
  rw [beqT ts0]
  have hb8 := Lib.hid hbx
  replace BB := Lib.hid (Below.trans BB.out (Hid.out hb8 |>.mono BB.out.size))
  clear hbx
  go_wp2_with fail
  refine (toInt64S_any _ l1 _ _ _ hn1 (HA1.out _ BB.out) hs1).mono ?_
  rintro e w9 ⟨g1y1, rfl, hg, hbx, ho⟩
  have hb9 := Lib.hid hbx
  replace BB := Lib.hid (Below.trans BB.out (Hid.out hb9 |>.mono BB.out.size))
  clear hbx hg
  have O1y1 := Lib.hid (Row.of ho)
  clear ho
  go_wp2_with fail
  refine (eqInt64S_any _ _ l1 l1 _ _ _ _ _ hn1 hn1 (rowI_RI hn1 (O1x.out.below (two_worlds (two_worlds (two_worlds hb6.out hb7.out) hb8.out) hb9.out)).1) (rowI_RI hn1 O1y1.out.1) HM1.out).mono ?_
  rintro e w10 ⟨rfl, hbx⟩
  rw [beqT l1]
  have hb10 := Lib.hid hbx
  replace BB := Lib.hid (Below.trans BB.out (Hid.out hb10 |>.mono BB.out.size))
  clear hbx
  go_wp2
  go_ret
  exact ⟨rfl, BB.out⟩
end Go.Proofs.Ytiilgeoahpnkpaa.fnExactStartsOfBlower
