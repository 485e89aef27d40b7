/-
  The walk of the law FnExactRunCarrier: it returns true at every input.
-/
import Derived.Test.YtabopjdcpllocaaRunCar
import Derived.Test.YtabopjdcpllocaaSealMarks
import Derived.Test.YtabopjdcpllocaaIntList
namespace Go.Proofs.Ytabopjdcpllocaa.fnExactRunCarrier
open Go.RowKit
set_option maxRecDepth 20000 in
set_option maxHeartbeats 8000000 in
theorem walk {w : World} (v0 : Value) (ts0 : List TSeal) (hw0 : SealsIn w v0 ts0) (f1 : Int) (wf1 : (Lit.int .i64 f1).wf = true) :
    Calls Try.prog 4 #[v0, .int .i64 f1] w fun e w' => e = .returned (.bool true) ∧ Below w.heap.size w w' := by
  obtain ⟨a0, n0, c0, rfl, hn0, hmax0, hr0, wf0⟩ := hw0
  have WF0 := Lib.hid wf0
  have HA0 : Hid (∀ w', Below w.heap.size w w' → RR 2 cSeal w' a0 ts0) := fun w' h => hr0.below h
  have HM0 := Lib.hid hmax0
  unfold maxLen at hmax0
  clear hr0 wf0
  have BB : Hid (Below w.heap.size w w) := Below.refl _ _
  go_enter Try.func4, Try.ntmps4
  go_wp2_with fail
  refine (szSealS_any _ _ _ 1048576 _ (by omega) (by omega) HM0.out).mono ?_
  rintro e w1 ⟨rfl, rfl⟩
  have hbd := leftOf_bounds 1048576 n0 (by omega)
  generalize hL : leftOf 1048576 n0 = L0 at hbd ⊢
  clear hL
  by_cases hneg : L0 < 0
  · clear hbd
    go_wp2
    go_ret
    exact ⟨rfl, BB.out⟩
  obtain ⟨_, hle0, hall⟩ := hbd
  have hs0 : n0 ≤ 1048576 := by have := hall (by omega); omega
  have hge0 : 0 ≤ L0 := by omega
  clear hneg hall
  obtain ⟨r0, r1, hres⟩ : ∃ r0 r1, runCar ts0 f1 = (r0, r1) := ⟨_, _, rfl⟩
  have hlen := runCar_len ts0 f1 (by rw [hn0.out]; exact hs0)
  rw [hres] at hlen
  dsimp only at hlen
  obtain ⟨m, hm⟩ : ∃ m, r0.length = m := ⟨_, rfl⟩
  rw [hm] at hlen
  have HML := Lib.hid hm
  have HMM : Hid (m ≤ maxLen) := by unfold Hid maxLen; omega
  clear hm
  have RES := Lib.hid hres
  clear hres
  go_wp2_with fail
  refine (toSealS_any _ ts0 _ _ _ hn0 (HA0.out _ BB.out) hs0).mono ?_
  rintro e w1 ⟨g0s, rfl, hg, hbx, ho⟩
  have hb1 := Lib.hid hbx
  replace BB := Lib.hid (Below.trans BB.out (Hid.out hb1 |>.mono BB.out.size))
  clear hbx hg
  have O0s := Lib.hid (Row.of ho)
  clear ho
  go_wp2_with fail
  refine (specRunCarrier_any _ ts0 hn0 (own_RR cSeal_len hn0 O0s.out.1) hs0 WF0 f1 wf1).mono ?_
  intro e w2 hgv
  rw [RES.out] at hgv
  obtain ⟨hbx, vw, rfl, ho⟩ := hgv
  dsimp only at ho
  obtain ⟨aw, cw, rfl⟩ := own_shape ho.1
  rw [HML.out] at ho ⊢
  have hb2 := Lib.hid hbx
  replace BB := Lib.hid (Below.trans BB.out (Hid.out hb2 |>.mono BB.out.size))
  clear hbx
  have Vw := Lib.hid ho
  clear ho
  go_wp2_with fail
  refine (toSealS_any _ ts0 _ _ _ hn0 (HA0.out _ BB.out) hs0).mono ?_
  rintro e w3 ⟨g0x, rfl, hg, hbx, ho⟩
  have hb3 := Lib.hid hbx
  replace BB := Lib.hid (Below.trans BB.out (Hid.out hb3 |>.mono BB.out.size))
  clear hbx hg
  have O0x := Lib.hid (Row.of ho)
  clear ho
  go_wp2_with fail
  refine (implRunCarrier_any _ ts0 hn0 (own_RR cSeal_len hn0 O0x.out.1) hs0 WF0 f1 wf1).mono ?_
  intro e w4 hgv
  rw [RES.out] at hgv
  obtain ⟨hbx, vg, rfl, ho⟩ := hgv
  dsimp only at ho
  obtain ⟨ag, cg, rfl⟩ := own_shape ho.1
  rw [HML.out] at ho ⊢
  have hb4 := Lib.hid hbx
  replace BB := Lib.hid (Below.trans BB.out (Hid.out hb4 |>.mono BB.out.size))
  clear hbx
  have Vg := Lib.hid ho
  clear ho
  go_wp2_with fail
  refine (eqSealS_any _ _ r0 r0 _ _ _ _ _ HML HML (own_RR cSeal_len HML Vg.out.1) (own_RR cSeal_len HML (Vw.out.below (two_worlds hb3.out hb4.out)).1) HMM.out).mono ?_
  rintro e w5 ⟨rfl, hbx⟩
  rw [beqT r0]
  have hb5 := Lib.hid hbx
  replace BB := Lib.hid (Below.trans BB.out (Hid.out hb5 |>.mono BB.out.size))
  clear hbx
  go_wp2_with fail
  refine (toSealS_any _ ts0 _ _ _ hn0 (HA0.out _ BB.out) hs0).mono ?_
  rintro e w6 ⟨g0y0, rfl, hg, hbx, ho⟩
  have hb6 := Lib.hid hbx
  replace BB := Lib.hid (Below.trans BB.out (Hid.out hb6 |>.mono BB.out.size))
  clear hbx hg
  have O0y0 := Lib.hid (Row.of ho)
  clear ho
  go_wp2_with fail
  refine (eqSealS_any _ _ ts0 ts0 _ _ _ _ _ hn0 hn0 (own_RR cSeal_len hn0 (O0x.out.below (two_worlds (two_worlds hb4.out hb5.out) hb6.out)).1) (own_RR cSeal_len hn0 O0y0.out.1) HM0.out).mono ?_
  rintro e w7 ⟨rfl, hbx⟩
  rw [beqT ts0]
  have hb7 := Lib.hid hbx
  replace BB := Lib.hid (Below.trans BB.out (Hid.out hb7 |>.mono BB.out.size))
  clear hbx
  have hk0 : (0 : Int) ≤ 1 := by omega
  go_wp2_with fail
  refine (markSealS_any _ _ _ _ _ 1 _ (O0x.out.below (two_worlds (two_worlds (two_worlds hb4.out hb5.out) hb6.out) hb7.out)).1 (by omega) (by omega) (by omega)).mono ?_
  rintro e w8 ⟨rfl, hgr, hom⟩
  have hq := And.intro (Turned.grown hgr (O0x.out.below (two_worlds (two_worlds (two_worlds hb4.out hb5.out) hb6.out) hb7.out)).2) (show Row _ _ _ _ _ _ _ _ from ⟨hom, (O0x.out.below (two_worlds (two_worlds (two_worlds hb4.out hb5.out) hb6.out) hb7.out)).2⟩)
  clear hgr hom
  obtain ⟨hbx, hox⟩ := hq
  have hb8 := Lib.hid hbx
  replace BB := Lib.hid (Below.trans BB.out (Turned.below (Hid.out hb8) ((Nat.le_trans hb1.out.size hb2.out.size)) BB.out.size))
  clear hbx
  clear hox
  go_wp2_with fail
  refine (eqSealS_any _ _ r0 r0 _ _ _ _ _ HML HML (own_RR cSeal_len HML ((Vg.out.below (two_worlds (two_worlds hb5.out hb6.out) hb7.out)).turned hb8.out (.inr (Nat.le_refl _))).1) (own_RR cSeal_len HML ((Vw.out.below (two_worlds (two_worlds (two_worlds (two_worlds hb3.out hb4.out) hb5.out) hb6.out) hb7.out)).turned hb8.out (.inl (Nat.le_refl _))).1) HMM.out).mono ?_
  rintro e w9 ⟨rfl, hbx⟩
  rw [beqT r0]
  have hb9 := Lib.hid hbx
  replace BB := Lib.hid (Below.trans BB.out (Hid.out hb9 |>.mono BB.out.size))
  clear hbx
  go_wp2_with fail
  refine (markSealS_any _ _ _ _ _ 1 _ (((Vg.out.below (two_worlds (two_worlds hb5.out hb6.out) hb7.out)).turned hb8.out (.inr (Nat.le_refl _))).below hb9.out).1 (by omega) (by omega) (by omega)).mono ?_
  rintro e w10 ⟨rfl, hgr, hom⟩
  have hq := And.intro (Turned.grown hgr (((Vg.out.below (two_worlds (two_worlds hb5.out hb6.out) hb7.out)).turned hb8.out (.inr (Nat.le_refl _))).below hb9.out).2) (show Row _ _ _ _ _ _ _ _ from ⟨hom, (((Vg.out.below (two_worlds (two_worlds hb5.out hb6.out) hb7.out)).turned hb8.out (.inr (Nat.le_refl _))).below hb9.out).2⟩)
  clear hgr hom
  obtain ⟨hbx, hox⟩ := hq
  have hb10 := Lib.hid hbx
  replace BB := Lib.hid (Below.trans BB.out (Turned.below (Hid.out hb10) ((Nat.le_trans (Nat.le_trans hb1.out.size hb2.out.size) hb3.out.size)) BB.out.size))
  clear hbx
  have MK := Lib.hid hox
  clear hox
  go_wp2_with fail
  refine (heldSealS_any _ m _ 1 _ (own_RR cSeal_len (marksSeal_length 1 m) MK.out.1) (by omega) (by omega) (by omega)).mono ?_
  rintro e w' ⟨rfl, rfl⟩
  go_wp2_with fail
  refine (toSealS_any _ ts0 _ _ _ hn0 (HA0.out _ BB.out) hs0).mono ?_
  rintro e w11 ⟨g0h, rfl, hg, hbx, ho⟩
  have hb11 := Lib.hid hbx
  replace BB := Lib.hid (Below.trans BB.out (Hid.out hb11 |>.mono BB.out.size))
  clear hbx hg
  have O0h := Lib.hid (Row.of ho)
  clear ho
  go_wp2_with fail
  refine (implRunCarrier_any _ ts0 hn0 (own_RR cSeal_len hn0 O0h.out.1) hs0 WF0 f1 wf1).mono ?_
  intro e w12 hgv
  rw [RES.out] at hgv
  obtain ⟨hbx, vh, rfl, ho⟩ := hgv
  dsimp only at ho
  obtain ⟨ah, ch, rfl⟩ := own_shape ho.1
  rw [HML.out] at ho ⊢
  have hb12 := Lib.hid hbx
  replace BB := Lib.hid (Below.trans BB.out (Hid.out hb12 |>.mono BB.out.size))
  clear hbx
  have Vh := Lib.hid ho
  clear ho
  go_wp2_with fail
  refine (eqSealS_any _ _ r0 r0 _ _ _ _ _ HML HML (own_RR cSeal_len HML Vh.out.1) (own_RR cSeal_len HML (((((Vw.out.below (two_worlds (two_worlds (two_worlds (two_worlds hb3.out hb4.out) hb5.out) hb6.out) hb7.out)).turned hb8.out (.inl (Nat.le_refl _))).below hb9.out).turned hb10.out (.inl (hb3.out.size))).below (two_worlds hb11.out hb12.out)).1) HMM.out).mono ?_
  rintro e w13 ⟨rfl, hbx⟩
  rw [beqT r0]
  have hb13 := Lib.hid hbx
  replace BB := Lib.hid (Below.trans BB.out (Hid.out hb13 |>.mono BB.out.size))
  clear hbx
  go_wp2_with fail
  refine (heldSealS_any _ m _ 1 _ (own_RR cSeal_len (marksSeal_length 1 m) (MK.out.below (two_worlds (two_worlds hb11.out hb12.out) hb13.out)).1) (by omega) (by omega) (by omega)).mono ?_
  rintro e w' ⟨rfl, rfl⟩
  go_wp2
  go_ret
  exact ⟨rfl, BB.out⟩
end Go.Proofs.Ytabopjdcpllocaa.fnExactRunCarrier
