/-
  The walk of the law FnExactNeedlessChanges: it returns true at every input.
-/
import Derived.Test.YtfejgckimlgopaaNeedSpec
import Derived.Test.YtfejgckimlgopaaZoned
import Derived.Test.YtfejgckimlgopaaIntList
import Derived.Test.YtfejgckimlgopaaMarksI
namespace Go.Proofs.Ytfejgckimlgopaa.fnExactNeedlessChanges
open Go.RowKit
set_option maxRecDepth 20000 in
set_option maxHeartbeats 8000000 in
theorem walk {w : World} (v0 : Value) (t0 : TZoned) (hw0 : ZonedIn w v0 t0) :
    Calls Try.prog 12 #[v0] w fun e w' => e = .returned (.bool true) ∧ Below w.heap.size w w' := by
  obtain ⟨a0, n0, c0, b0, m0, d0, rfl, hn0, hmax0, hr0, hy0, hmay0, hq0, wf0⟩ := hw0
  have WF0 := Lib.hid wf0
  have HA0 : Hid (∀ w', Below w.heap.size w w' → RI w' a0 t0.2.1) := fun w' h => hr0.below h
  have HC0 : Hid (∀ w', Below w.heap.size w w' → RR 3 cChange w' b0 t0.2.2) := fun w' h => hq0.below h
  have HM0 := Lib.hid hmax0
  have HN0 := Lib.hid hmay0
  unfold maxLen at hmax0 hmay0
  clear hr0 hq0 wf0
  have BB : Hid (Below w.heap.size w w) := Below.refl _ _
  have PB0_ := Box.alloc w [.int .i64 t0.1, .slice a0 n0 c0, .slice b0 m0 d0] 47
  have hb1 : Hid (Below w.heap.size w (w.alloc (.cells #[.int .i64 t0.1, .slice a0 n0 c0, .slice b0 m0 d0] 47))) := (Below.refl _ _).alloc (Nat.le_refl _) _
  replace BB := Lib.hid (Below.trans BB.out (Hid.out hb1 |>.mono BB.out.size))
  have PB0 := Lib.hid PB0_
  clear PB0_
  go_enter Try.func12, Try.ntmps12
  have pc0 := (PB0.out).2
  have pc0_0 := pc0 0 _ rfl
  have pc0_1 := pc0 1 _ rfl
  have pc0_2 := pc0 2 _ rfl
  clear pc0
  go_wp2_with fail
  refine (szZoned_any _ _ _ _ _ _ _ 1048576 _ (by omega) (by omega) HM0.out HN0.out).mono ?_
  rintro e w2 ⟨rfl, hbx⟩
  have hb2 := Lib.hid hbx
  replace BB := Lib.hid (Below.trans BB.out (Hid.out hb2 |>.mono BB.out.size))
  clear hbx
  clear pc0_0 pc0_1 pc0_2
  have hbd := szZ_bounds 1048576 n0 m0 (by omega)
  generalize hL : szZ 1048576 n0 m0 = L0 at hbd ⊢
  clear hL
  by_cases hneg : L0 < 0
  · clear hbd
    go_wp2
    go_ret
    exact ⟨rfl, BB.out⟩
  obtain ⟨_, hle0, hall⟩ := hbd
  have hs0 : n0 ≤ 1048576 := by have := (hall (by omega)).1; omega
  have ht0 : m0 ≤ 1048576 := by have := (hall (by omega)).2; omega
  have hge0 : 0 ≤ L0 := by omega
  clear hneg hall
  obtain ⟨r0, r1, hres⟩ : ∃ r0 r1, needR t0 = (r0, r1) := ⟨_, _, rfl⟩
  have hlen := (needR_len (t := t0))
  rw [hres] at hlen
  dsimp only at hlen
  obtain ⟨m, hm⟩ : ∃ m, r0.length = m := ⟨_, rfl⟩
  rw [hm] at hlen
  have HML := Lib.hid hm
  have HMM : Hid (m ≤ maxLen) := by unfold Hid maxLen; omega
  clear hm
  have RES := Lib.hid hres
  clear hres
  have pc0 := ((PB0.out.below hb2.out)).2
  have pc0_0 := pc0 0 _ rfl
  have pc0_1 := pc0 1 _ rfl
  have pc0_2 := pc0 2 _ rfl
  clear pc0
  go_wp2_with fail
  refine (toZoned_any _ _ t0 _ _ _ _ _ hn0 (HA0.out _ BB.out) hs0 hy0 (HC0.out _ BB.out) ht0).mono ?_
  rintro e w3 ⟨g0s, q0s, rfl, hbx, ho⟩
  have hb3 := Lib.hid hbx
  replace BB := Lib.hid (Below.trans BB.out (Hid.out hb3 |>.mono BB.out.size))
  clear hbx
  clear pc0_0 pc0_1 pc0_2
  have O0s := Lib.hid ho
  clear ho
  go_wp2_with fail
  refine (specNeedlessChanges_any _ t0 hn0 (O0s.out.rdI hn0) hs0 hy0 (O0s.out.rdC hy0) ht0 WF0).mono ?_
  intro e w4 hgv
  rw [RES.out] at hgv
  obtain ⟨hbx, vw, rfl, ho⟩ := hgv
  dsimp only at ho
  obtain ⟨aw, cw, rfl⟩ := own_shape ho.1
  rw [HML.out] at ho ⊢
  have hb4 := Lib.hid hbx
  replace BB := Lib.hid (Below.trans BB.out (Hid.out hb4 |>.mono BB.out.size))
  clear hbx
  have Vw := Lib.hid ho
  clear ho
  have pc0 := ((PB0.out.below (two_worlds (two_worlds hb2.out hb3.out) hb4.out))).2
  have pc0_0 := pc0 0 _ rfl
  have pc0_1 := pc0 1 _ rfl
  have pc0_2 := pc0 2 _ rfl
  clear pc0
  go_wp2_with fail
  refine (toZoned_any _ _ t0 _ _ _ _ _ hn0 (HA0.out _ BB.out) hs0 hy0 (HC0.out _ BB.out) ht0).mono ?_
  rintro e w5 ⟨g0x, q0x, rfl, hbx, ho⟩
  have hb5 := Lib.hid hbx
  replace BB := Lib.hid (Below.trans BB.out (Hid.out hb5 |>.mono BB.out.size))
  clear hbx
  clear pc0_0 pc0_1 pc0_2
  have O0x := Lib.hid ho
  clear ho
  have XB0 := Lib.hid (Box.alloc w5 [.int .i64 t0.1, .slice (some ⟨g0x, 0, none⟩) n0 n0, .slice (some ⟨q0x, 0, none⟩) m0 m0] 27)
  have hb6 := Lib.hid (show Below w5.heap.size w5 (w5.alloc (.cells #[.int .i64 t0.1, .slice (some ⟨g0x, 0, none⟩) n0 n0, .slice (some ⟨q0x, 0, none⟩) m0 m0] 27)) from (Below.refl _ _).alloc (Nat.le_refl _) _)
  replace BB := Lib.hid (Below.trans BB.out (Hid.out hb6 |>.mono BB.out.size))
  have xc0 := (XB0.out).2
  have xc0_0 := xc0 0 _ rfl
  have xc0_1 := xc0 1 _ rfl
  have xc0_2 := xc0 2 _ rfl
  clear xc0
  go_wp2_with fail
  refine (implNeedlessChanges_any _ t0 hn0 ((O0x.out.below hb6.out).rdI hn0) hs0 hy0 ((O0x.out.below hb6.out).rdC hy0) ht0 WF0).mono ?_
  intro e w7 hgv
  rw [RES.out] at hgv
  obtain ⟨hbx, vg, rfl, ho⟩ := hgv
  dsimp only at ho
  obtain ⟨ag, cg, rfl⟩ := own_shape ho.1
  rw [HML.out] at ho ⊢
  have hb7 := Lib.hid hbx
  replace BB := Lib.hid (Below.trans BB.out (Hid.out hb7 |>.mono BB.out.size))
  clear hbx
  have Vg := Lib.hid ho
  clear ho
  clear xc0_0 xc0_1 xc0_2
  go_wp2_with fail
  refine (eqInt64S_any _ _ r0 r0 _ _ _ _ _ HML HML (rowI_RI HML Vg.out.1) (rowI_RI HML (Vw.out.below (two_worlds (two_worlds hb5.out hb6.out) hb7.out)).1) HMM.out).mono ?_
  rintro e w8 ⟨rfl, hbx⟩
  rw [beqT r0]
  have hb8 := Lib.hid hbx
  replace BB := Lib.hid (Below.trans BB.out (Hid.out hb8 |>.mono BB.out.size))
  clear hbx
  have hb9 := Lib.hid (show Below w8.heap.size w8 w8.drew from (Below.refl _ _).drew)
  replace BB := Lib.hid (Below.trans BB.out (Hid.out hb9 |>.mono BB.out.size))
  go_wp2_with fail
  go_region_held3 (fun w' => w'.cell? ⟨w5.heap.size, 0, none⟩ = some (.int .i64 t0.1) ∧ w'.cell? ⟨w5.heap.size, 1, none⟩ = some (.slice (some ⟨g0x, 0, none⟩) n0 n0) ∧ w'.cell? ⟨w5.heap.size, 2, none⟩ = some (.slice (some ⟨q0x, 0, none⟩) m0 m0) ∧ w'.cell? ⟨w.heap.size, 0, none⟩ = some (.int .i64 t0.1) ∧ w'.cell? ⟨w.heap.size, 1, none⟩ = some (.slice a0 n0 c0) ∧ w'.cell? ⟨w.heap.size, 2, none⟩ = some (.slice b0 m0 d0))
    (first | exact ⟨((XB0.out.below (two_worlds (two_worlds hb7.out hb8.out) hb9.out))).2 0 _ rfl, ((XB0.out.below (two_worlds (two_worlds hb7.out hb8.out) hb9.out))).2 1 _ rfl, ((XB0.out.below (two_worlds (two_worlds hb7.out hb8.out) hb9.out))).2 2 _ rfl, ((PB0.out.below (two_worlds (two_worlds (two_worlds (two_worlds (two_worlds (two_worlds (two_worlds hb2.out hb3.out) hb4.out) hb5.out) hb6.out) hb7.out) hb8.out) hb9.out))).2 0 _ rfl, ((PB0.out.below (two_worlds (two_worlds (two_worlds (two_worlds (two_worlds (two_worlds (two_worlds hb2.out hb3.out) hb4.out) hb5.out) hb6.out) hb7.out) hb8.out) hb9.out))).2 1 _ rfl, ((PB0.out.below (two_worlds (two_worlds (two_worlds (two_worlds (two_worlds (two_worlds (two_worlds hb2.out hb3.out) hb4.out) hb5.out) hb6.out) hb7.out) hb8.out) hb9.out))).2 2 _ rfl⟩ | exact ⟨((XB0.out.below (two_worlds (two_worlds (two_worlds hb7.out hb8.out) hb9.out) hb10.out))).2 0 _ rfl, ((XB0.out.below (two_worlds (two_worlds (two_worlds hb7.out hb8.out) hb9.out) hb10.out))).2 1 _ rfl, ((XB0.out.below (two_worlds (two_worlds (two_worlds hb7.out hb8.out) hb9.out) hb10.out))).2 2 _ rfl, ((PB0.out.below (two_worlds (two_worlds (two_worlds (two_worlds (two_worlds (two_worlds (two_worlds (two_worlds hb2.out hb3.out) hb4.out) hb5.out) hb6.out) hb7.out) hb8.out) hb9.out) hb10.out))).2 0 _ rfl, ((PB0.out.below (two_worlds (two_worlds (two_worlds (two_worlds (two_worlds (two_worlds (two_worlds (two_worlds hb2.out hb3.out) hb4.out) hb5.out) hb6.out) hb7.out) hb8.out) hb9.out) hb10.out))).2 1 _ rfl, ((PB0.out.below (two_worlds (two_worlds (two_worlds (two_worlds (two_worlds (two_worlds (two_worlds (two_worlds hb2.out hb3.out) hb4.out) hb5.out) hb6.out) hb7.out) hb8.out) hb9.out) hb10.out))).2 2 _ rfl⟩ | exact ⟨((XB0.out.below (two_worlds (two_worlds (two_worlds (two_worlds hb7.out hb8.out) hb9.out) hb10.out) hb11.out))).2 0 _ rfl, ((XB0.out.below (two_worlds (two_worlds (two_worlds (two_worlds hb7.out hb8.out) hb9.out) hb10.out) hb11.out))).2 1 _ rfl, ((XB0.out.below (two_worlds (two_worlds (two_worlds (two_worlds hb7.out hb8.out) hb9.out) hb10.out) hb11.out))).2 2 _ rfl, ((PB0.out.below (two_worlds (two_worlds (two_worlds (two_worlds (two_worlds (two_worlds (two_worlds (two_worlds (two_worlds hb2.out hb3.out) hb4.out) hb5.out) hb6.out) hb7.out) hb8.out) hb9.out) hb10.out) hb11.out))).2 0 _ rfl, ((PB0.out.below (two_worlds (two_worlds (two_worlds (two_worlds (two_worlds (two_worlds (two_worlds (two_worlds (two_worlds hb2.out hb3.out) hb4.out) hb5.out) hb6.out) hb7.out) hb8.out) hb9.out) hb10.out) hb11.out))).2 1 _ rfl, ((PB0.out.below (two_worlds (two_worlds (two_worlds (two_worlds (two_worlds (two_worlds (two_worlds (two_worlds (two_worlds hb2.out hb3.out) hb4.out) hb5.out) hb6.out) hb7.out) hb8.out) hb9.out) hb10.out) hb11.out))).2 2 _ rfl⟩)
    (first | (go_at_call 36; refine (toZoned_any _ _ t0 _ _ _ _ _ hn0 (HA0.out _ BB.out) hs0 hy0 (HC0.out _ BB.out) ht0).mono ?_; rintro e w10 ⟨g0y0, q0y0, rfl, hbx, ho⟩; have hb10 := Lib.hid hbx; replace BB := Lib.hid (Below.trans BB.out (Hid.out hb10 |>.mono BB.out.size)); clear hbx; have O0y0 := Lib.hid ho; clear ho) | (go_at_call 38; refine (eqZoned_any _ _ _ _ t0 t0 _ _ _ _ _ _ _ _ _ hn0 hn0 hy0 hy0 ((O0x.out.below (two_worlds (two_worlds (two_worlds (two_worlds hb6.out hb7.out) hb8.out) hb9.out) hb10.out)).rdI hn0) (O0y0.out.rdI hn0) ((O0x.out.below (two_worlds (two_worlds (two_worlds (two_worlds hb6.out hb7.out) hb8.out) hb9.out) hb10.out)).rdC hy0) (O0y0.out.rdC hy0) HM0.out HN0.out).mono ?_; rintro e w11 ⟨rfl, hbx⟩; rw [beqT t0]; have hb11 := Lib.hid hbx; replace BB := Lib.hid (Below.trans BB.out (Hid.out hb11 |>.mono BB.out.size)); clear hbx))
  have hk0 : (0 : Int) ≤ 1 := by omega
  have xc0 := ((XB0.out.below (two_worlds (two_worlds (two_worlds (two_worlds hb7.out hb8.out) hb9.out) hb10.out) hb11.out))).2
  have xc0_0 := xc0 0 _ rfl
  have xc0_1 := xc0 1 _ rfl
  have xc0_2 := xc0 2 _ rfl
  clear xc0
  go_wp2_with fail
  refine (markZoned_any _ _ t0 _ _ _ _ 1 _ _ _ hn0 hy0 (O0x.out.below (two_worlds (two_worlds (two_worlds (two_worlds (two_worlds hb6.out hb7.out) hb8.out) hb9.out) hb10.out) hb11.out)) (by omega) (by omega) (by omega) (by omega)).mono ?_
  rintro e w12 ⟨rfl, hbx, hox⟩
  clear xc0_0 xc0_1 xc0_2
  have hb12 := Lib.hid hbx
  replace BB := Lib.hid (Below.trans BB.out (Turned.below (Hid.out hb12) ((Nat.le_trans (Nat.le_trans (Nat.le_trans hb1.out.size hb2.out.size) hb3.out.size) hb4.out.size)) BB.out.size))
  clear hbx
  clear hox
  go_wp2_with fail
  refine (eqInt64S_any _ _ r0 r0 _ _ _ _ _ HML HML (rowI_RI HML ((Vg.out.below (two_worlds (two_worlds (two_worlds hb8.out hb9.out) hb10.out) hb11.out)).turned hb12.out (.inr (hb6.out.size))).1) (rowI_RI HML ((Vw.out.below (two_worlds (two_worlds (two_worlds (two_worlds (two_worlds (two_worlds hb5.out hb6.out) hb7.out) hb8.out) hb9.out) hb10.out) hb11.out)).turned hb12.out (.inl (Nat.le_refl _))).1) HMM.out).mono ?_
  rintro e w13 ⟨rfl, hbx⟩
  rw [beqT r0]
  have hb13 := Lib.hid hbx
  replace BB := Lib.hid (Below.trans BB.out (Hid.out hb13 |>.mono BB.out.size))
  clear hbx
  go_wp2_with fail
  refine (markInt64S_any _ _ _ _ _ 1 _ (((Vg.out.below (two_worlds (two_worlds (two_worlds hb8.out hb9.out) hb10.out) hb11.out)).turned hb12.out (.inr (hb6.out.size))).below hb13.out).1 (by omega) (by omega) (by omega)).mono ?_
  rintro e w14 ⟨rfl, hgr, hom⟩
  have hq := And.intro (Turned.grown hgr (((Vg.out.below (two_worlds (two_worlds (two_worlds hb8.out hb9.out) hb10.out) hb11.out)).turned hb12.out (.inr (hb6.out.size))).below hb13.out).2) (show Row _ _ _ _ _ _ _ _ from ⟨hom, (((Vg.out.below (two_worlds (two_worlds (two_worlds hb8.out hb9.out) hb10.out) hb11.out)).turned hb12.out (.inr (hb6.out.size))).below hb13.out).2⟩)
  clear hgr hom
  obtain ⟨hbx, hox⟩ := hq
  have hb14 := Lib.hid hbx
  replace BB := Lib.hid (Below.trans BB.out (Turned.below (Hid.out hb14) ((Nat.le_trans (Nat.le_trans (Nat.le_trans (Nat.le_trans (Nat.le_trans hb1.out.size hb2.out.size) hb3.out.size) hb4.out.size) hb5.out.size) hb6.out.size)) BB.out.size))
  clear hbx
  have MK := Lib.hid hox
  clear hox
  go_wp2_with fail
  refine (heldInt64S_any _ m _ 1 _ (own_RI (marksI_length 1 m) MK.out.1) (by omega) (by omega) (by omega)).mono ?_
  rintro e w' ⟨rfl, rfl⟩
  have pc0 := (((((PB0.out.below (two_worlds (two_worlds (two_worlds (two_worlds (two_worlds (two_worlds (two_worlds (two_worlds (two_worlds hb2.out hb3.out) hb4.out) hb5.out) hb6.out) hb7.out) hb8.out) hb9.out) hb10.out) hb11.out)).turned hb12.out (.inl (Nat.lt_of_lt_of_le PB0.out.1 ((Nat.le_trans (Nat.le_trans hb2.out.size hb3.out.size) hb4.out.size))))).below hb13.out).turned hb14.out (.inl (Nat.lt_of_lt_of_le PB0.out.1 ((Nat.le_trans (Nat.le_trans (Nat.le_trans (Nat.le_trans hb2.out.size hb3.out.size) hb4.out.size) hb5.out.size) hb6.out.size)))))).2
  have pc0_0 := pc0 0 _ rfl
  have pc0_1 := pc0 1 _ rfl
  have pc0_2 := pc0 2 _ rfl
  clear pc0
  go_wp2_with fail
  refine (toZoned_any _ _ t0 _ _ _ _ _ hn0 (HA0.out _ BB.out) hs0 hy0 (HC0.out _ BB.out) ht0).mono ?_
  rintro e w15 ⟨g0h, q0h, rfl, hbx, ho⟩
  have hb15 := Lib.hid hbx
  replace BB := Lib.hid (Below.trans BB.out (Hid.out hb15 |>.mono BB.out.size))
  clear hbx
  clear pc0_0 pc0_1 pc0_2
  have O0h := Lib.hid ho
  clear ho
  go_wp2_with fail
  refine (implNeedlessChanges_any _ t0 hn0 (O0h.out.rdI hn0) hs0 hy0 (O0h.out.rdC hy0) ht0 WF0).mono ?_
  intro e w16 hgv
  rw [RES.out] at hgv
  obtain ⟨hbx, vh, rfl, ho⟩ := hgv
  dsimp only at ho
  obtain ⟨ah, ch, rfl⟩ := own_shape ho.1
  rw [HML.out] at ho ⊢
  have hb16 := Lib.hid hbx
  replace BB := Lib.hid (Below.trans BB.out (Hid.out hb16 |>.mono BB.out.size))
  clear hbx
  have Vh := Lib.hid ho
  clear ho
  go_wp2_with fail
  refine (eqInt64S_any _ _ r0 r0 _ _ _ _ _ HML HML (rowI_RI HML Vh.out.1) (rowI_RI HML (((((Vw.out.below (two_worlds (two_worlds (two_worlds (two_worlds (two_worlds (two_worlds hb5.out hb6.out) hb7.out) hb8.out) hb9.out) hb10.out) hb11.out)).turned hb12.out (.inl (Nat.le_refl _))).below hb13.out).turned hb14.out (.inl ((Nat.le_trans hb5.out.size hb6.out.size)))).below (two_worlds hb15.out hb16.out)).1) HMM.out).mono ?_
  rintro e w17 ⟨rfl, hbx⟩
  rw [beqT r0]
  have hb17 := Lib.hid hbx
  replace BB := Lib.hid (Below.trans BB.out (Hid.out hb17 |>.mono BB.out.size))
  clear hbx
  go_wp2_with fail
  refine (heldInt64S_any _ m _ 1 _ (own_RI (marksI_length 1 m) (MK.out.below (two_worlds (two_worlds hb15.out hb16.out) hb17.out)).1) (by omega) (by omega) (by omega)).mono ?_
  rintro e w' ⟨rfl, rfl⟩
  go_wp2
  go_ret
  exact ⟨rfl, BB.out⟩
end Go.Proofs.Ytfejgckimlgopaa.fnExactNeedlessChanges
