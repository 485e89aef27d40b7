/-
  The walk of the law FnExactBestDay: it returns true at every input.
-/
import Derived.Test.YtiilgeoahpnkpaaBlowBdL
import Derived.Test.YtiilgeoahpnkpaaBlowerMarks
import Derived.Test.YtiilgeoahpnkpaaNums
import Derived.Test.YtiilgeoahpnkpaaMarksI
import Derived.Test.YtiilgeoahpnkpaaIntList
namespace Go.Proofs.Ytiilgeoahpnkpaa.fnExactBestDay
open Go.RowKit
set_option maxRecDepth 20000 in
set_option maxHeartbeats 8000000 in
theorem walk {w : World} (v0 : Value) (ts0 : List TBlower) (hw0 : BlowersIn w v0 ts0) (v1 : Value) (l1 : List Int) (hw1 : NumsIn w v1 l1) :
    Calls Try.prog 10 #[v0, v1] w fun e w' => e = .returned (.bool true) ∧ Below w.heap.size w w' := by
  obtain ⟨a0, n0, c0, rfl, hn0, hmax0, hr0, wf0⟩ := hw0
  have WF0 := Lib.hid wf0
  have HA0 : Hid (∀ w', Below w.heap.size w w' → RR 3 cBlower w' a0 ts0) := fun w' h => hr0.below h
  have HM0 := Lib.hid hmax0
  unfold maxLen at hmax0
  clear hr0 wf0
  obtain ⟨a1, n1, c1, rfl, hn1, hmax1, hr1, wf1⟩ := hw1
  have WF1 := Lib.hid wf1
  have HA1 : Hid (∀ w', Below w.heap.size w w' → RI w' a1 l1) := fun w' h => hr1.below h
  have HM1 := Lib.hid hmax1
  unfold maxLen at hmax1
  clear hr1 wf1
  have BB : Hid (Below w.heap.size w w) := Below.refl _ _
  go_enter Try.func10, Try.ntmps10
  by_cases hbig1 : 1048576 < n1
  · go_wp2
    go_ret
    exact ⟨rfl, BB.out⟩
  have hs1 : n1 ≤ 1048576 := by omega
  clear hbig1
  go_wp2_with fail
  refine (szBlowerS_any _ _ _ 1048576 _ (by omega) (by omega) HM0.out).mono ?_
  rintro e w1 ⟨rfl, rfl⟩
  have hbd := leftOf_bounds 1048576 n0 (by omega)
  generalize hL : leftOf 1048576 n0 = L0 at hbd ⊢
  clear hL
  by_cases hneg : L0 < 0
  · clear hbd
    go_wp2
    go_ret
    exact ⟨rfl, BB.out⟩
  obtain ⟨_, hle0, hall⟩ := hbd
  have hs0 : n0 ≤ 1048576 := by have := hall (by omega); omega
  have hge0 : 0 ≤ L0 := by omega
  clear hneg hall
  obtain ⟨r0, r1, r2, hres⟩ : ∃ r0 r1 r2, dayOf ts0 l1 = (r0, r1, r2) := ⟨_, _, _, rfl⟩
  have hlen := dayOf_len ts0 l1
  rw [hres] at hlen
  dsimp only at hlen
  obtain ⟨m, hm⟩ : ∃ m, r0.length = m := ⟨_, rfl⟩
  rw [hm] at hlen
  have HML := Lib.hid hm
  have HMM : Hid (m ≤ maxLen) := by unfold Hid maxLen; omega
  clear hm
  have RES := Lib.hid hres
  clear hres
  go_wp2_with fail
  refine (toBlowerS_any _ ts0 _ _ _ hn0 (HA0.out _ BB.out) hs0).mono ?_
  rintro e w1 ⟨g0s, rfl, hg, hbx, ho⟩
  have hb1 := Lib.hid hbx
  replace BB := Lib.hid (Below.trans BB.out (Hid.out hb1 |>.mono BB.out.size))
  clear hbx hg
  have O0s := Lib.hid (Row.of ho)
  clear ho
  go_wp2_with fail
  refine (toInt64S_any _ l1 _ _ _ hn1 (HA1.out _ BB.out) hs1).mono ?_
  rintro e w2 ⟨g1s, rfl, hg, hbx, ho⟩
  have hb2 := Lib.hid hbx
  replace BB := Lib.hid (Below.trans BB.out (Hid.out hb2 |>.mono BB.out.size))
  clear hbx hg
  have O1s := Lib.hid (Row.of ho)
  clear ho
  go_wp2_with fail
  refine (specBestDay_any _ ts0 hn0 (own_RR cBlower_len hn0 (O0s.out.below hb2.out).1) hs0 WF0 l1 hn1 (rowI_RI hn1 O1s.out.1) hs1 WF1).mono ?_
  intro e w3 hgv
  rw [RES.out] at hgv
  obtain ⟨hbx, vw, rfl, ho⟩ := hgv
  dsimp only at ho
  obtain ⟨aw, cw, rfl⟩ := own_shape ho.1
  rw [HML.out] at ho ⊢
  have hb3 := Lib.hid hbx
  replace BB := Lib.hid (Below.trans BB.out (Hid.out hb3 |>.mono BB.out.size))
  clear hbx
  have Vw := Lib.hid ho
  clear ho
  go_wp2_with fail
  refine (toBlowerS_any _ ts0 _ _ _ hn0 (HA0.out _ BB.out) hs0).mono ?_
  rintro e w4 ⟨g0x, rfl, hg, hbx, ho⟩
  have hb4 := Lib.hid hbx
  replace BB := Lib.hid (Below.trans BB.out (Hid.out hb4 |>.mono BB.out.size))
  clear hbx hg
  have O0x := Lib.hid (Row.of ho)
  clear ho
  go_wp2_with fail
  refine (toInt64S_any _ l1 _ _ _ hn1 (HA1.out _ BB.out) hs1).mono ?_
  rintro e w5 ⟨g1x, rfl, hg, hbx, ho⟩
  have hb5 := Lib.hid hbx
  replace BB := Lib.hid (Below.trans BB.out (Hid.out hb5 |>.mono BB.out.size))
  clear hbx hg
  have O1x := Lib.hid (Row.of ho)
  clear ho
  go_wp2_with fail
  refine (implBestDay_any _ ts0 hn0 (own_RR cBlower_len hn0 (O0x.out.below hb5.out).1) hs0 WF0 l1 hn1 (rowI_RI hn1 O1x.out.1) hs1 WF1).mono ?_
  intro e w6 hgv
  rw [RES.out] at hgv
  obtain ⟨hbx, vg, rfl, ho⟩ := hgv
  dsimp only at ho
  obtain ⟨ag, cg, rfl⟩ := own_shape ho.1
  rw [HML.out] at ho ⊢
  have hb6 := Lib.hid hbx
  replace BB := Lib.hid (Below.trans BB.out (Hid.out hb6 |>.mono BB.out.size))
  clear hbx
  have Vg := Lib.hid ho
  clear ho
  go_wp2_with fail
  refine (eqInt64S_any _ _ r0 r0 _ _ _ _ _ HML HML (rowI_RI HML Vg.out.1) (rowI_RI HML (Vw.out.below (two_worlds (two_worlds hb4.out hb5.out) hb6.out)).1) HMM.out).mono ?_
  rintro e w7 ⟨rfl, hbx⟩
  rw [beqT r0]
  have hb7 := Lib.hid hbx
  replace BB := Lib.hid (Below.trans BB.out (Hid.out hb7 |>.mono BB.out.size))
  clear hbx
  go_wp2_with fail
  refine (toBlowerS_any _ ts0 _ _ _ hn0 (HA0.out _ BB.out) hs0).mono ?_
  rintro e w8 ⟨g0y0, rfl, hg, hbx, ho⟩
  have hb8 := Lib.hid hbx
  replace BB := Lib.hid (Below.trans BB.out (Hid.out hb8 |>.mono BB.out.size))
  clear hbx hg
  have O0y0 := Lib.hid (Row.of ho)
  clear ho
  go_wp2_with fail
  refine (eqBlowerS_any _ _ ts0 ts0 _ _ _ _ _ hn0 hn0 (own_RR cBlower_len hn0 (O0x.out.below (two_worlds (two_worlds (two_worlds hb5.out hb6.out) hb7.out) hb8.out)).1) (own_RR cBlower_len hn0 O0y0.out.1) HM0.out).mono ?_
  rintro e w9 ⟨rfl, hbx⟩
  rw [beqT ts0]
  have hb9 := Lib.hid hbx
  replace BB := Lib.hid (Below.trans BB.out (Hid.out hb9 |>.mono BB.out.size))
  clear hbx
  go_wp2_with fail
  refine (toInt64S_any _ l1 _ _ _ hn1 (HA1.out _ BB.out) hs1).mono ?_
  rintro e w10 ⟨g1y1, rfl, hg, hbx, ho⟩
  have hb10 := Lib.hid hbx
  replace BB := Lib.hid (Below.trans BB.out (Hid.out hb10 |>.mono BB.out.size))
  clear hbx hg
  have O1y1 := Lib.hid (Row.of ho)
  clear ho
  go_wp2_with fail
  refine (eqInt64S_any _ _ l1 l1 _ _ _ _ _ hn1 hn1 (rowI_RI hn1 (O1x.out.below (two_worlds (two_worlds (two_worlds (two_worlds hb6.out hb7.out) hb8.out) hb9.out) hb10.out)).1) (rowI_RI hn1 O1y1.out.1) HM1.out).mono ?_
  rintro e w11 ⟨rfl, hbx⟩
  rw [beqT l1]
  have hb11 := Lib.hid hbx
  replace BB := Lib.hid (Below.trans BB.out (Hid.out hb11 |>.mono BB.out.size))
  clear hbx
  have hk0 : (0 : Int) ≤ 1 := by omega
  go_wp2_with fail
  refine (markBlowerS_any _ _ _ _ _ 1 _ (O0x.out.below (two_worlds (two_worlds (two_worlds (two_worlds (two_worlds (two_worlds hb5.out hb6.out) hb7.out) hb8.out) hb9.out) hb10.out) hb11.out)).1 (by omega) (by omega) (by omega)).mono ?_
  rintro e w12 ⟨rfl, hgr, hom⟩
  have hq := And.intro (Turned.grown hgr (O0x.out.below (two_worlds (two_worlds (two_worlds (two_worlds (two_worlds (two_worlds hb5.out hb6.out) hb7.out) hb8.out) hb9.out) hb10.out) hb11.out)).2) (show Row _ _ _ _ _ _ _ _ from ⟨hom, (O0x.out.below (two_worlds (two_worlds (two_worlds (two_worlds (two_worlds (two_worlds hb5.out hb6.out) hb7.out) hb8.out) hb9.out) hb10.out) hb11.out)).2⟩)
  clear hgr hom
  obtain ⟨hbx, hox⟩ := hq
  have hb12 := Lib.hid hbx
  replace BB := Lib.hid (Below.trans BB.out (Turned.below (Hid.out hb12) ((Nat.le_trans (Nat.le_trans hb1.out.size hb2.out.size) hb3.out.size)) BB.out.size))
  clear hbx
  clear hox
  go_wp2_with fail
  refine (markInt64S_any _ _ _ _ _ (1 + 3 * (n0 : Int)) _ ((O1x.out.below (two_worlds (two_worlds (two_worlds (two_worlds (two_worlds hb6.out hb7.out) hb8.out) hb9.out) hb10.out) hb11.out)).turned hb12.out (.inr (Nat.le_refl _))).1 (by omega) (by omega) (by omega)).mono ?_
  rintro e w13 ⟨rfl, hgr, hom⟩
  have hq := And.intro (Turned.grown hgr ((O1x.out.below (two_worlds (two_worlds (two_worlds (two_worlds (two_worlds hb6.out hb7.out) hb8.out) hb9.out) hb10.out) hb11.out)).turned hb12.out (.inr (Nat.le_refl _))).2) (show Row _ _ _ _ _ _ _ _ from ⟨hom, ((O1x.out.below (two_worlds (two_worlds (two_worlds (two_worlds (two_worlds hb6.out hb7.out) hb8.out) hb9.out) hb10.out) hb11.out)).turned hb12.out (.inr (Nat.le_refl _))).2⟩)
  clear hgr hom
  obtain ⟨hbx, hox⟩ := hq
  have hb13 := Lib.hid hbx
  replace BB := Lib.hid (Below.trans BB.out (Turned.below (Hid.out hb13) ((Nat.le_trans (Nat.le_trans (Nat.le_trans hb1.out.size hb2.out.size) hb3.out.size) hb4.out.size)) BB.out.size))
  clear hbx
  clear hox
  go_wp2_with fail
  refine (eqInt64S_any _ _ r0 r0 _ _ _ _ _ HML HML (rowI_RI HML (((Vg.out.below (two_worlds (two_worlds (two_worlds (two_worlds hb7.out hb8.out) hb9.out) hb10.out) hb11.out)).turned hb12.out (.inr (hb5.out.size))).turned hb13.out (.inr (Nat.le_refl _))).1) (rowI_RI HML (((Vw.out.below (two_worlds (two_worlds (two_worlds (two_worlds (two_worlds (two_worlds (two_worlds hb4.out hb5.out) hb6.out) hb7.out) hb8.out) hb9.out) hb10.out) hb11.out)).turned hb12.out (.inl (Nat.le_refl _))).turned hb13.out (.inl (hb4.out.size))).1) HMM.out).mono ?_
  rintro e w14 ⟨rfl, hbx⟩
  rw [beqT r0]
  have hb14 := Lib.hid hbx
  replace BB := Lib.hid (Below.trans BB.out (Hid.out hb14 |>.mono BB.out.size))
  clear hbx
  go_wp2_with fail
  refine (markInt64S_any _ _ _ _ _ 1 _ ((((Vg.out.below (two_worlds (two_worlds (two_worlds (two_worlds hb7.out hb8.out) hb9.out) hb10.out) hb11.out)).turned hb12.out (.inr (hb5.out.size))).turned hb13.out (.inr (Nat.le_refl _))).below hb14.out).1 (by omega) (by omega) (by omega)).mono ?_
  rintro e w15 ⟨rfl, hgr, hom⟩
  have hq := And.intro (Turned.grown hgr ((((Vg.out.below (two_worlds (two_worlds (two_worlds (two_worlds hb7.out hb8.out) hb9.out) hb10.out) hb11.out)).turned hb12.out (.inr (hb5.out.size))).turned hb13.out (.inr (Nat.le_refl _))).below hb14.out).2) (show Row _ _ _ _ _ _ _ _ from ⟨hom, ((((Vg.out.below (two_worlds (two_worlds (two_worlds (two_worlds hb7.out hb8.out) hb9.out) hb10.out) hb11.out)).turned hb12.out (.inr (hb5.out.size))).turned hb13.out (.inr (Nat.le_refl _))).below hb14.out).2⟩)
  clear hgr hom
  obtain ⟨hbx, hox⟩ := hq
  have hb15 := Lib.hid hbx
  replace BB := Lib.hid (Below.trans BB.out (Turned.below (Hid.out hb15) ((Nat.le_trans (Nat.le_trans (Nat.le_trans (Nat.le_trans hb1.out.size hb2.out.size) hb3.out.size) hb4.out.size) hb5.out.size)) BB.out.size))
  clear hbx
  have MK := Lib.hid hox
  clear hox
  go_wp2_with fail
  refine (heldInt64S_any _ m _ 1 _ (own_RI (marksI_length 1 m) MK.out.1) (by omega) (by omega) (by omega)).mono ?_
  rintro e w' ⟨rfl, rfl⟩
  go_wp2_with fail
  refine (toBlowerS_any _ ts0 _ _ _ hn0 (HA0.out _ BB.out) hs0).mono ?_
  rintro e w16 ⟨g0h, rfl, hg, hbx, ho⟩
  have hb16 := Lib.hid hbx
  replace BB := Lib.hid (Below.trans BB.out (Hid.out hb16 |>.mono BB.out.size))
  clear hbx hg
  have O0h := Lib.hid (Row.of ho)
  clear ho
  go_wp2_with fail
  refine (toInt64S_any _ l1 _ _ _ hn1 (HA1.out _ BB.out) hs1).mono ?_
  rintro e w17 ⟨g1h, rfl, hg, hbx, ho⟩
  have hb17 := Lib.hid hbx
  replace BB := Lib.hid (Below.trans BB.out (Hid.out hb17 |>.mono BB.out.size))
  clear hbx hg
  have O1h := Lib.hid (Row.of ho)
  clear ho
  go_wp2_with fail
  refine (implBestDay_any _ ts0 hn0 (own_RR cBlower_len hn0 (O0h.out.below hb17.out).1) hs0 WF0 l1 hn1 (rowI_RI hn1 O1h.out.1) hs1 WF1).mono ?_
  intro e w18 hgv
  rw [RES.out] at hgv
  obtain ⟨hbx, vh, rfl, ho⟩ := hgv
  dsimp only at ho
  obtain ⟨ah, ch, rfl⟩ := own_shape ho.1
  rw [HML.out] at ho ⊢
  have hb18 := Lib.hid hbx
  replace BB := Lib.hid (Below.trans BB.out (Hid.out hb18 |>.mono BB.out.size))
  clear hbx
  have Vh := Lib.hid ho
  clear ho
  go_wp2_with fail
  refine (eqInt64S_any _ _ r0 r0 _ _ _ _ _ HML HML (rowI_RI HML Vh.out.1) (rowI_RI HML ((((((Vw.out.below (two_worlds (two_worlds (two_worlds (two_worlds (two_worlds (two_worlds (two_worlds hb4.out hb5.out) hb6.out) hb7.out) hb8.out) hb9.out) hb10.out) hb11.out)).turned hb12.out (.inl (Nat.le_refl _))).turned hb13.out (.inl (hb4.out.size))).below hb14.out).turned hb15.out (.inl ((Nat.le_trans hb4.out.size hb5.out.size)))).below (two_worlds (two_worlds hb16.out hb17.out) hb18.out)).1) HMM.out).mono ?_
  rintro e w19 ⟨rfl, hbx⟩
  rw [beqT r0]
  have hb19 := Lib.hid hbx
  replace BB := Lib.hid (Below.trans BB.out (Hid.out hb19 |>.mono BB.out.size))
  clear hbx
  go_wp2_with fail
  refine (heldInt64S_any _ m _ 1 _ (own_RI (marksI_length 1 m) (MK.out.below (two_worlds (two_worlds (two_worlds hb16.out hb17.out) hb18.out) hb19.out)).1) (by omega) (by omega) (by omega)).mono ?_
  rintro e w' ⟨rfl, rfl⟩
  go_wp2
  go_ret
  exact ⟨rfl, BB.out⟩
end Go.Proofs.Ytiilgeoahpnkpaa.fnExactBestDay
