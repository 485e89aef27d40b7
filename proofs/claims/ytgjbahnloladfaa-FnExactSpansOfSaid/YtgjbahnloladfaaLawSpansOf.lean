/-
  The walk of the law FnExactSpansOf: it returns true at every input.
-/
import Derived.Test.YtgjbahnloladfaaSpansImpl
import Derived.Test.YtgjbahnloladfaaInt64SMarks
import Derived.Test.YtgjbahnloladfaaRunMarks
namespace Go.Proofs.Ytgjbahnloladfaa.fnExactSpansOf
open Go.RowKit
set_option maxRecDepth 20000 in
set_option maxHeartbeats 8000000 in
theorem walk {w : World} (v0 : Value) (l0 : List Int) (hw0 : NumsIn w v0 l0) (v1 : Value) (t1 : TRun) (hw1 : RunIn w v1 t1) :
    Calls Try.prog 7 #[v0, v1] w fun e w' => e = .returned (.bool true) ∧ Below w.heap.size w w' := by
  obtain ⟨a0, n0, c0, rfl, hn0, hmax0, hr0, wf0⟩ := hw0
  have WF0 := Lib.hid wf0
  have HA0 : Hid (∀ w', Below w.heap.size w w' → RI w' a0 l0) := fun w' h => hr0.below h
  have HM0 := Lib.hid hmax0
  unfold maxLen at hmax0
  clear hr0 wf0
  obtain ⟨a1, n1, c1, rfl, hn1, hmax1, hr1, wf1⟩ := hw1
  have WF1 := Lib.hid wf1
  have HA1 : Hid (∀ w', Below w.heap.size w w' → RI w' a1 t1.1) := fun w' h => hr1.below h
  have HM1 := Lib.hid hmax1
  unfold maxLen at hmax1
  clear hr1 wf1
  have BB : Hid (Below w.heap.size w w) := Below.refl _ _
  have PB1_ := Box.alloc w [.slice a1 n1 c1, .int .i64 t1.2] 47
  have hb1 : Hid (Below w.heap.size w (w.alloc (.cells #[.slice a1 n1 c1, .int .i64 t1.2] 47))) := (Below.refl _ _).alloc (Nat.le_refl _) _
  replace BB := Lib.hid (Below.trans BB.out (Hid.out hb1 |>.mono BB.out.size))
  have PB1 := Lib.hid PB1_
  clear PB1_
  go_enter Try.func7, Try.ntmps7
  by_cases hbig0 : 1048576 < n0
  · go_wp2
    go_ret
    exact ⟨rfl, BB.out⟩
  have hs0 : n0 ≤ 1048576 := by omega
  clear hbig0
  have pc1 := (PB1.out).2
  have pc1_0 := pc1 0 _ rfl
  have pc1_1 := pc1 1 _ rfl
  clear pc1
  go_wp2_with fail
  refine (szRun_any _ t1.2 _ _ 1048576 _ (by omega) (by omega) HM1.out).mono ?_
  rintro e w2 ⟨rfl, hbx⟩
  have hb2 := Lib.hid hbx
  replace BB := Lib.hid (Below.trans BB.out (Hid.out hb2 |>.mono BB.out.size))
  clear hbx
  clear pc1_0 pc1_1
  have hbd := leftOf_bounds 1048576 n1 (by omega)
  generalize hL : leftOf 1048576 n1 = L1 at hbd ⊢
  clear hL
  by_cases hneg : L1 < 0
  · clear hbd
    go_wp2
    go_ret
    exact ⟨rfl, BB.out⟩
  obtain ⟨_, hle1, hall⟩ := hbd
  have hs1 : n1 ≤ 1048576 := by have := hall (by omega); omega
  have hge1 : 0 ≤ L1 := by omega
  clear hneg hall
  obtain ⟨r0, r1, hres⟩ : ∃ r0 r1, spansOf l0 t1 = (r0, r1) := ⟨_, _, rfl⟩
  have hlen := spans_len l0 t1 (by rw [hn1.out]; exact hs1)
  rw [hres] at hlen
  dsimp only at hlen
  have hleni := spans_leni l0 t1
  rw [hres] at hleni
  dsimp only at hleni
  have HLI := Lib.hid hleni
  have HLJ : Hid (∀ i (h : i < r0.length), r0[i].1.length ≤ 1048577) := fun i h => Nat.le_trans (HLI.out i h) (by omega)
  clear hleni
  obtain ⟨m, hm⟩ : ∃ m, r0.length = m := ⟨_, rfl⟩
  rw [hm] at hlen
  have HML := Lib.hid hm
  have HMM : Hid (m ≤ maxLen) := by unfold Hid maxLen; omega
  clear hm
  have RES := Lib.hid hres
  clear hres
  have hb3 := Lib.hid (show Below w2.heap.size w2 w2.drew from (Below.refl _ _).drew)
  replace BB := Lib.hid (Below.trans BB.out (Hid.out hb3 |>.mono BB.out.size))
  go_wp2_with fail
  go_region_held3 (fun w' => w'.cell? ⟨w.heap.size, 0, none⟩ = some (.slice a1 n1 c1) ∧ w'.cell? ⟨w.heap.size, 1, none⟩ = some (.int .i64 t1.2))
    (first | exact ⟨((PB1.out.below (two_worlds hb2.out hb3.out))).2 0 _ rfl, ((PB1.out.below (two_worlds hb2.out hb3.out))).2 1 _ rfl⟩ | exact ⟨((PB1.out.below (two_worlds (two_worlds hb2.out hb3.out) hb4.out))).2 0 _ rfl, ((PB1.out.below (two_worlds (two_worlds hb2.out hb3.out) hb4.out))).2 1 _ rfl⟩ | exact ⟨((PB1.out.below (two_worlds (two_worlds (two_worlds hb2.out hb3.out) hb4.out) hb5.out))).2 0 _ rfl, ((PB1.out.below (two_worlds (two_worlds (two_worlds hb2.out hb3.out) hb4.out) hb5.out))).2 1 _ rfl⟩ | exact ⟨((PB1.out.below (two_worlds (two_worlds (two_worlds (two_worlds hb2.out hb3.out) hb4.out) hb5.out) hb6.out))).2 0 _ rfl, ((PB1.out.below (two_worlds (two_worlds (two_worlds (two_worlds hb2.out hb3.out) hb4.out) hb5.out) hb6.out))).2 1 _ rfl⟩)
    (first | (go_at_call 19; refine (toInt64S_any _ l0 _ _ _ hn0 (HA0.out _ BB.out) hs0).mono ?_; rintro e w4 ⟨g0s, rfl, hg, hbx, ho⟩; have hb4 := Lib.hid hbx; replace BB := Lib.hid (Below.trans BB.out (Hid.out hb4 |>.mono BB.out.size)); clear hbx hg; have O0s := Lib.hid (Row.of ho); clear ho) | (go_at_call 30; refine (toRun_any _ t1 _ _ _ hn1 (HA1.out _ BB.out) hs1).mono ?_; rintro e w5 ⟨g1s, rfl, hg, hbx, ho⟩; have hb5 := Lib.hid hbx; replace BB := Lib.hid (Below.trans BB.out (Hid.out hb5 |>.mono BB.out.size)); clear hbx hg; have O1s := Lib.hid (Row.of ho); clear ho) | (go_at_call 17; refine (specSpansOf_any _ l0 hn0 (rowI_RI hn0 (O0s.out.below hb5.out).1) hs0 WF0 t1 hn1 (rowI_RI hn1 O1s.out.1) hs1 WF1).mono ?_; intro e w6 hgv; rw [RES.out] at hgv; obtain ⟨hbx, vw, rfl, ho⟩ := hgv; dsimp only at ho; obtain ⟨aw, cw, rfl⟩ := ho.shape; rw [HML.out] at ho ⊢; have hb6 := Lib.hid hbx; replace BB := Lib.hid (Below.trans BB.out (Hid.out hb6 |>.mono BB.out.size)); clear hbx; have Vw := Lib.hid ho; clear ho))
  go_wp2_with fail
  refine (toInt64S_any _ l0 _ _ _ hn0 (HA0.out _ BB.out) hs0).mono ?_
  rintro e w7 ⟨g0x, rfl, hg, hbx, ho⟩
  have hb7 := Lib.hid hbx
  replace BB := Lib.hid (Below.trans BB.out (Hid.out hb7 |>.mono BB.out.size))
  clear hbx hg
  have O0x := Lib.hid (Row.of ho)
  clear ho
  have pc1 := ((PB1.out.below (two_worlds (two_worlds (two_worlds (two_worlds (two_worlds hb2.out hb3.out) hb4.out) hb5.out) hb6.out) hb7.out))).2
  have pc1_0 := pc1 0 _ rfl
  have pc1_1 := pc1 1 _ rfl
  clear pc1
  go_wp2_with fail
  refine (toRun_any _ t1 _ _ _ hn1 (HA1.out _ BB.out) hs1).mono ?_
  rintro e w8 ⟨g1x, rfl, hg, hbx, ho⟩
  have hb8 := Lib.hid hbx
  replace BB := Lib.hid (Below.trans BB.out (Hid.out hb8 |>.mono BB.out.size))
  clear hbx hg
  clear pc1_0 pc1_1
  have O1x := Lib.hid (Row.of ho)
  clear ho
  have XB1 := Lib.hid (Box.alloc w8 [.slice (some ⟨g1x, 0, none⟩) n1 n1, .int .i64 t1.2] 34)
  have hb9 := Lib.hid (show Below w8.heap.size w8 (w8.alloc (.cells #[.slice (some ⟨g1x, 0, none⟩) n1 n1, .int .i64 t1.2] 34)) from (Below.refl _ _).alloc (Nat.le_refl _) _)
  replace BB := Lib.hid (Below.trans BB.out (Hid.out hb9 |>.mono BB.out.size))
  have xc1 := (XB1.out).2
  have xc1_0 := xc1 0 _ rfl
  have xc1_1 := xc1 1 _ rfl
  clear xc1
  go_wp2_with fail
  refine (implSpansOf_any _ l0 hn0 (rowI_RI hn0 (O0x.out.below (two_worlds hb8.out hb9.out)).1) hs0 WF0 t1 hn1 (rowI_RI hn1 (O1x.out.below hb9.out).1) hs1 WF1).mono ?_
  intro e w10 hgv
  rw [RES.out] at hgv
  obtain ⟨hbx, vg, rfl, ho⟩ := hgv
  dsimp only at ho
  obtain ⟨ag, cg, rfl⟩ := ho.shape
  rw [HML.out] at ho ⊢
  have hb10 := Lib.hid hbx
  replace BB := Lib.hid (Below.trans BB.out (Hid.out hb10 |>.mono BB.out.size))
  clear hbx
  have Vg := Lib.hid ho
  clear ho
  clear xc1_0 xc1_1
  go_wp2_with fail
  refine (eqInt64SS_any 1048576 (by unfold maxLen; omega) _ _ r0 r0 _ _ _ _ _ HML HML (Vg.out.rd cInt64S_len HML HLI.out) ((Vw.out.below (two_worlds (two_worlds (two_worlds hb7.out hb8.out) hb9.out) hb10.out)).rd cInt64S_len HML HLI.out) HMM.out).mono ?_
  rintro e w11 ⟨rfl, hbx⟩
  rw [beqT r0]
  have hb11 := Lib.hid hbx
  replace BB := Lib.hid (Below.trans BB.out (Hid.out hb11 |>.mono BB.out.size))
  clear hbx
  go_wp2_with fail
  refine (toInt64S_any _ l0 _ _ _ hn0 (HA0.out _ BB.out) hs0).mono ?_
  rintro e w12 ⟨g0y0, rfl, hg, hbx, ho⟩
  have hb12 := Lib.hid hbx
  replace BB := Lib.hid (Below.trans BB.out (Hid.out hb12 |>.mono BB.out.size))
  clear hbx hg
  have O0y0 := Lib.hid (Row.of ho)
  clear ho
  go_wp2_with fail
  refine (eqInt64S_any _ _ l0 l0 _ _ _ _ _ hn0 hn0 (rowI_RI hn0 (O0x.out.below (two_worlds (two_worlds (two_worlds (two_worlds hb8.out hb9.out) hb10.out) hb11.out) hb12.out)).1) (rowI_RI hn0 O0y0.out.1) HM0.out).mono ?_
  rintro e w13 ⟨rfl, hbx⟩
  rw [beqT l0]
  have hb13 := Lib.hid hbx
  replace BB := Lib.hid (Below.trans BB.out (Hid.out hb13 |>.mono BB.out.size))
  clear hbx
  have hb14 := Lib.hid (show Below w13.heap.size w13 w13.drew from (Below.refl _ _).drew)
  replace BB := Lib.hid (Below.trans BB.out (Hid.out hb14 |>.mono BB.out.size))
  go_wp2_with fail
  go_region_held3 (fun w' => w'.cell? ⟨w8.heap.size, 0, none⟩ = some (.slice (some ⟨g1x, 0, none⟩) n1 n1) ∧ w'.cell? ⟨w8.heap.size, 1, none⟩ = some (.int .i64 t1.2) ∧ w'.cell? ⟨w.heap.size, 0, none⟩ = some (.slice a1 n1 c1) ∧ w'.cell? ⟨w.heap.size, 1, none⟩ = some (.int .i64 t1.2))
    (first | exact ⟨((XB1.out.below (two_worlds (two_worlds (two_worlds (two_worlds hb10.out hb11.out) hb12.out) hb13.out) hb14.out))).2 0 _ rfl, ((XB1.out.below (two_worlds (two_worlds (two_worlds (two_worlds hb10.out hb11.out) hb12.out) hb13.out) hb14.out))).2 1 _ rfl, ((PB1.out.below (two_worlds (two_worlds (two_worlds (two_worlds (two_worlds (two_worlds (two_worlds (two_worlds (two_worlds (two_worlds (two_worlds (two_worlds hb2.out hb3.out) hb4.out) hb5.out) hb6.out) hb7.out) hb8.out) hb9.out) hb10.out) hb11.out) hb12.out) hb13.out) hb14.out))).2 0 _ rfl, ((PB1.out.below (two_worlds (two_worlds (two_worlds (two_worlds (two_worlds (two_worlds (two_worlds (two_worlds (two_worlds (two_worlds (two_worlds (two_worlds hb2.out hb3.out) hb4.out) hb5.out) hb6.out) hb7.out) hb8.out) hb9.out) hb10.out) hb11.out) hb12.out) hb13.out) hb14.out))).2 1 _ rfl⟩ | exact ⟨((XB1.out.below (two_worlds (two_worlds (two_worlds (two_worlds (two_worlds hb10.out hb11.out) hb12.out) hb13.out) hb14.out) hb15.out))).2 0 _ rfl, ((XB1.out.below (two_worlds (two_worlds (two_worlds (two_worlds (two_worlds hb10.out hb11.out) hb12.out) hb13.out) hb14.out) hb15.out))).2 1 _ rfl, ((PB1.out.below (two_worlds (two_worlds (two_worlds (two_worlds (two_worlds (two_worlds (two_worlds (two_worlds (two_worlds (two_worlds (two_worlds (two_worlds (two_worlds hb2.out hb3.out) hb4.out) hb5.out) hb6.out) hb7.out) hb8.out) hb9.out) hb10.out) hb11.out) hb12.out) hb13.out) hb14.out) hb15.out))).2 0 _ rfl, ((PB1.out.below (two_worlds (two_worlds (two_worlds (two_worlds (two_worlds (two_worlds (two_worlds (two_worlds (two_worlds (two_worlds (two_worlds (two_worlds (two_worlds hb2.out hb3.out) hb4.out) hb5.out) hb6.out) hb7.out) hb8.out) hb9.out) hb10.out) hb11.out) hb12.out) hb13.out) hb14.out) hb15.out))).2 1 _ rfl⟩ | exact ⟨((XB1.out.below (two_worlds (two_worlds (two_worlds (two_worlds (two_worlds (two_worlds hb10.out hb11.out) hb12.out) hb13.out) hb14.out) hb15.out) hb16.out))).2 0 _ rfl, ((XB1.out.below (two_worlds (two_worlds (two_worlds (two_worlds (two_worlds (two_worlds hb10.out hb11.out) hb12.out) hb13.out) hb14.out) hb15.out) hb16.out))).2 1 _ rfl, ((PB1.out.below (two_worlds (two_worlds (two_worlds (two_worlds (two_worlds (two_worlds (two_worlds (two_worlds (two_worlds (two_worlds (two_worlds (two_worlds (two_worlds (two_worlds hb2.out hb3.out) hb4.out) hb5.out) hb6.out) hb7.out) hb8.out) hb9.out) hb10.out) hb11.out) hb12.out) hb13.out) hb14.out) hb15.out) hb16.out))).2 0 _ rfl, ((PB1.out.below (two_worlds (two_worlds (two_worlds (two_worlds (two_worlds (two_worlds (two_worlds (two_worlds (two_worlds (two_worlds (two_worlds (two_worlds (two_worlds (two_worlds hb2.out hb3.out) hb4.out) hb5.out) hb6.out) hb7.out) hb8.out) hb9.out) hb10.out) hb11.out) hb12.out) hb13.out) hb14.out) hb15.out) hb16.out))).2 1 _ rfl⟩)
    (first | (go_at_call 30; refine (toRun_any _ t1 _ _ _ hn1 (HA1.out _ BB.out) hs1).mono ?_; rintro e w15 ⟨g1y1, rfl, hg, hbx, ho⟩; have hb15 := Lib.hid hbx; replace BB := Lib.hid (Below.trans BB.out (Hid.out hb15 |>.mono BB.out.size)); clear hbx hg; have O1y1 := Lib.hid (Row.of ho); clear ho) | (go_at_call 32; refine (eqRun_any _ _ t1 t1 _ _ _ _ _ hn1 hn1 (rowI_RI hn1 (O1x.out.below (two_worlds (two_worlds (two_worlds (two_worlds (two_worlds (two_worlds hb9.out hb10.out) hb11.out) hb12.out) hb13.out) hb14.out) hb15.out)).1) (rowI_RI hn1 O1y1.out.1) HM1.out).mono ?_; rintro e w16 ⟨rfl, hbx⟩; rw [beqT t1]; have hb16 := Lib.hid hbx; replace BB := Lib.hid (Below.trans BB.out (Hid.out hb16 |>.mono BB.out.size)); clear hbx))
  have hk0 : (0 : Int) ≤ 1 := by omega
  go_wp2_with fail
  refine (markInt64S_any _ _ _ _ _ 1 _ (O0x.out.below (two_worlds (two_worlds (two_worlds (two_worlds (two_worlds (two_worlds (two_worlds (two_worlds hb8.out hb9.out) hb10.out) hb11.out) hb12.out) hb13.out) hb14.out) hb15.out) hb16.out)).1 (by omega) (by omega) (by omega)).mono ?_
  rintro e w17 ⟨rfl, hgr, hom⟩
  have hq := And.intro (Turned.grown hgr (O0x.out.below (two_worlds (two_worlds (two_worlds (two_worlds (two_worlds (two_worlds (two_worlds (two_worlds hb8.out hb9.out) hb10.out) hb11.out) hb12.out) hb13.out) hb14.out) hb15.out) hb16.out)).2) (show Row _ _ _ _ _ _ _ _ from ⟨hom, (O0x.out.below (two_worlds (two_worlds (two_worlds (two_worlds (two_worlds (two_worlds (two_worlds (two_worlds hb8.out hb9.out) hb10.out) hb11.out) hb12.out) hb13.out) hb14.out) hb15.out) hb16.out)).2⟩)
  clear hgr hom
  obtain ⟨hbx, hox⟩ := hq
  have hb17 := Lib.hid hbx
  replace BB := Lib.hid (Below.trans BB.out (Turned.below (Hid.out hb17) ((Nat.le_trans (Nat.le_trans (Nat.le_trans (Nat.le_trans (Nat.le_trans hb1.out.size hb2.out.size) hb3.out.size) hb4.out.size) hb5.out.size) hb6.out.size)) BB.out.size))
  clear hbx
  clear hox
  have xc1 := (((XB1.out.below (two_worlds (two_worlds (two_worlds (two_worlds (two_worlds (two_worlds hb10.out hb11.out) hb12.out) hb13.out) hb14.out) hb15.out) hb16.out)).turned hb17.out (.inr (hb8.out.size)))).2
  have xc1_0 := xc1 0 _ rfl
  have xc1_1 := xc1 1 _ rfl
  clear xc1
  go_wp2_with fail
  refine (markRun_any t1.2 _ _ _ _ _ (1 + (n0 : Int)) _ ((O1x.out.below (two_worlds (two_worlds (two_worlds (two_worlds (two_worlds (two_worlds (two_worlds hb9.out hb10.out) hb11.out) hb12.out) hb13.out) hb14.out) hb15.out) hb16.out)).turned hb17.out (.inr (Nat.le_refl _))).1 (by omega) (by omega) (by omega)).mono ?_
  rintro e w18 ⟨rfl, hgr, hom⟩
  have hq := And.intro (Turned.grown hgr ((O1x.out.below (two_worlds (two_worlds (two_worlds (two_worlds (two_worlds (two_worlds (two_worlds hb9.out hb10.out) hb11.out) hb12.out) hb13.out) hb14.out) hb15.out) hb16.out)).turned hb17.out (.inr (Nat.le_refl _))).2) (show Row _ _ _ _ _ _ _ _ from ⟨hom, ((O1x.out.below (two_worlds (two_worlds (two_worlds (two_worlds (two_worlds (two_worlds (two_worlds hb9.out hb10.out) hb11.out) hb12.out) hb13.out) hb14.out) hb15.out) hb16.out)).turned hb17.out (.inr (Nat.le_refl _))).2⟩)
  clear hgr hom
  obtain ⟨hbx, hox⟩ := hq
  clear xc1_0 xc1_1
  have hb18 := Lib.hid hbx
  replace BB := Lib.hid (Below.trans BB.out (Turned.below (Hid.out hb18) ((Nat.le_trans (Nat.le_trans (Nat.le_trans (Nat.le_trans (Nat.le_trans (Nat.le_trans hb1.out.size hb2.out.size) hb3.out.size) hb4.out.size) hb5.out.size) hb6.out.size) hb7.out.size)) BB.out.size))
  clear hbx
  clear hox
  go_wp2_with fail
  refine (eqInt64SS_any 1048576 (by unfold maxLen; omega) _ _ r0 r0 _ _ _ _ _ HML HML ((((Vg.out.below (two_worlds (two_worlds (two_worlds (two_worlds (two_worlds hb11.out hb12.out) hb13.out) hb14.out) hb15.out) hb16.out)).turned hb17.out (.inr ((Nat.le_trans hb8.out.size hb9.out.size)))).turned hb18.out (.inr (hb9.out.size))).rd cInt64S_len HML HLI.out) ((((Vw.out.below (two_worlds (two_worlds (two_worlds (two_worlds (two_worlds (two_worlds (two_worlds (two_worlds (two_worlds hb7.out hb8.out) hb9.out) hb10.out) hb11.out) hb12.out) hb13.out) hb14.out) hb15.out) hb16.out)).turned hb17.out (.inl (Nat.le_refl _))).turned hb18.out (.inl (hb7.out.size))).rd cInt64S_len HML HLI.out) HMM.out).mono ?_
  rintro e w19 ⟨rfl, hbx⟩
  rw [beqT r0]
  have hb19 := Lib.hid hbx
  replace BB := Lib.hid (Below.trans BB.out (Hid.out hb19 |>.mono BB.out.size))
  clear hbx
  go_wp2_with fail
  refine (markInt64SS_any _ r0 _ _ _ 1 _ HML ((((Vg.out.below (two_worlds (two_worlds (two_worlds (two_worlds (two_worlds hb11.out hb12.out) hb13.out) hb14.out) hb15.out) hb16.out)).turned hb17.out (.inr ((Nat.le_trans hb8.out.size hb9.out.size)))).turned hb18.out (.inr (hb9.out.size))).below hb19.out) HLJ (by omega) (by omega) (by omega)).mono ?_
  rintro e w20 ⟨rfl, hbx, hox⟩
  have hst := startN_le 0 1 r0 (by omega) (by omega) (Hid.out HLJ) r0.length (Nat.le_refl _)
  rw [Hid.out HML] at hst hox ⊢
  have hb20 := Lib.hid hbx
  replace BB := Lib.hid (Below.trans BB.out (Turned.below (Hid.out hb20) ((Nat.le_trans (Nat.le_trans (Nat.le_trans (Nat.le_trans (Nat.le_trans (Nat.le_trans (Nat.le_trans (Nat.le_trans hb1.out.size hb2.out.size) hb3.out.size) hb4.out.size) hb5.out.size) hb6.out.size) hb7.out.size) hb8.out.size) hb9.out.size)) BB.out.size))
  clear hbx
  have MK := Lib.hid hox
  clear hox
  go_wp2_with fail
  refine (heldInt64SS_any 1048576 _ r0 m _ 1 _ HML (MK.out.rd cInt64S_len ((markN_length _ _ _ _ _).trans HML.out) (fun i h => by rw [markN_len]; exact HLI.out i (by rw [← markN_length]; exact h))) HLJ (by omega) (by omega) (by omega)).mono ?_
  rintro e w' ⟨rfl, rfl⟩
  have hb21 := Lib.hid (show Below w20.heap.size w20 w20.drew from (Below.refl _ _).drew)
  replace BB := Lib.hid (Below.trans BB.out (Hid.out hb21 |>.mono BB.out.size))
  go_wp2_with fail
  go_region_held3 (fun w' => w'.cell? ⟨w.heap.size, 0, none⟩ = some (.slice a1 n1 c1) ∧ w'.cell? ⟨w.heap.size, 1, none⟩ = some (.int .i64 t1.2))
    (first | exact ⟨(((((((PB1.out.below (two_worlds (two_worlds (two_worlds (two_worlds (two_worlds (two_worlds (two_worlds (two_worlds (two_worlds (two_worlds (two_worlds (two_worlds (two_worlds (two_worlds hb2.out hb3.out) hb4.out) hb5.out) hb6.out) hb7.out) hb8.out) hb9.out) hb10.out) hb11.out) hb12.out) hb13.out) hb14.out) hb15.out) hb16.out)).turned hb17.out (.inl (Nat.lt_of_lt_of_le PB1.out.1 ((Nat.le_trans (Nat.le_trans (Nat.le_trans (Nat.le_trans hb2.out.size hb3.out.size) hb4.out.size) hb5.out.size) hb6.out.size))))).turned hb18.out (.inl (Nat.lt_of_lt_of_le PB1.out.1 ((Nat.le_trans (Nat.le_trans (Nat.le_trans (Nat.le_trans (Nat.le_trans hb2.out.size hb3.out.size) hb4.out.size) hb5.out.size) hb6.out.size) hb7.out.size))))).below hb19.out).turned hb20.out (.inl (Nat.lt_of_lt_of_le PB1.out.1 ((Nat.le_trans (Nat.le_trans (Nat.le_trans (Nat.le_trans (Nat.le_trans (Nat.le_trans (Nat.le_trans hb2.out.size hb3.out.size) hb4.out.size) hb5.out.size) hb6.out.size) hb7.out.size) hb8.out.size) hb9.out.size))))).below hb21.out)).2 0 _ rfl, (((((((PB1.out.below (two_worlds (two_worlds (two_worlds (two_worlds (two_worlds (two_worlds (two_worlds (two_worlds (two_worlds (two_worlds (two_worlds (two_worlds (two_worlds (two_worlds hb2.out hb3.out) hb4.out) hb5.out) hb6.out) hb7.out) hb8.out) hb9.out) hb10.out) hb11.out) hb12.out) hb13.out) hb14.out) hb15.out) hb16.out)).turned hb17.out (.inl (Nat.lt_of_lt_of_le PB1.out.1 ((Nat.le_trans (Nat.le_trans (Nat.le_trans (Nat.le_trans hb2.out.size hb3.out.size) hb4.out.size) hb5.out.size) hb6.out.size))))).turned hb18.out (.inl (Nat.lt_of_lt_of_le PB1.out.1 ((Nat.le_trans (Nat.le_trans (Nat.le_trans (Nat.le_trans (Nat.le_trans hb2.out.size hb3.out.size) hb4.out.size) hb5.out.size) hb6.out.size) hb7.out.size))))).below hb19.out).turned hb20.out (.inl (Nat.lt_of_lt_of_le PB1.out.1 ((Nat.le_trans (Nat.le_trans (Nat.le_trans (Nat.le_trans (Nat.le_trans (Nat.le_trans (Nat.le_trans hb2.out.size hb3.out.size) hb4.out.size) hb5.out.size) hb6.out.size) hb7.out.size) hb8.out.size) hb9.out.size))))).below hb21.out)).2 1 _ rfl⟩ | exact ⟨(((((((PB1.out.below (two_worlds (two_worlds (two_worlds (two_worlds (two_worlds (two_worlds (two_worlds (two_worlds (two_worlds (two_worlds (two_worlds (two_worlds (two_worlds (two_worlds hb2.out hb3.out) hb4.out) hb5.out) hb6.out) hb7.out) hb8.out) hb9.out) hb10.out) hb11.out) hb12.out) hb13.out) hb14.out) hb15.out) hb16.out)).turned hb17.out (.inl (Nat.lt_of_lt_of_le PB1.out.1 ((Nat.le_trans (Nat.le_trans (Nat.le_trans (Nat.le_trans hb2.out.size hb3.out.size) hb4.out.size) hb5.out.size) hb6.out.size))))).turned hb18.out (.inl (Nat.lt_of_lt_of_le PB1.out.1 ((Nat.le_trans (Nat.le_trans (Nat.le_trans (Nat.le_trans (Nat.le_trans hb2.out.size hb3.out.size) hb4.out.size) hb5.out.size) hb6.out.size) hb7.out.size))))).below hb19.out).turned hb20.out (.inl (Nat.lt_of_lt_of_le PB1.out.1 ((Nat.le_trans (Nat.le_trans (Nat.le_trans (Nat.le_trans (Nat.le_trans (Nat.le_trans (Nat.le_trans hb2.out.size hb3.out.size) hb4.out.size) hb5.out.size) hb6.out.size) hb7.out.size) hb8.out.size) hb9.out.size))))).below (two_worlds hb21.out hb22.out))).2 0 _ rfl, (((((((PB1.out.below (two_worlds (two_worlds (two_worlds (two_worlds (two_worlds (two_worlds (two_worlds (two_worlds (two_worlds (two_worlds (two_worlds (two_worlds (two_worlds (two_worlds hb2.out hb3.out) hb4.out) hb5.out) hb6.out) hb7.out) hb8.out) hb9.out) hb10.out) hb11.out) hb12.out) hb13.out) hb14.out) hb15.out) hb16.out)).turned hb17.out (.inl (Nat.lt_of_lt_of_le PB1.out.1 ((Nat.le_trans (Nat.le_trans (Nat.le_trans (Nat.le_trans hb2.out.size hb3.out.size) hb4.out.size) hb5.out.size) hb6.out.size))))).turned hb18.out (.inl (Nat.lt_of_lt_of_le PB1.out.1 ((Nat.le_trans (Nat.le_trans (Nat.le_trans (Nat.le_trans (Nat.le_trans hb2.out.size hb3.out.size) hb4.out.size) hb5.out.size) hb6.out.size) hb7.out.size))))).below hb19.out).turned hb20.out (.inl (Nat.lt_of_lt_of_le PB1.out.1 ((Nat.le_trans (Nat.le_trans (Nat.le_trans (Nat.le_trans (Nat.le_trans (Nat.le_trans (Nat.le_trans hb2.out.size hb3.out.size) hb4.out.size) hb5.out.size) hb6.out.size) hb7.out.size) hb8.out.size) hb9.out.size))))).below (two_worlds hb21.out hb22.out))).2 1 _ rfl⟩ | exact ⟨(((((((PB1.out.below (two_worlds (two_worlds (two_worlds (two_worlds (two_worlds (two_worlds (two_worlds (two_worlds (two_worlds (two_worlds (two_worlds (two_worlds (two_worlds (two_worlds hb2.out hb3.out) hb4.out) hb5.out) hb6.out) hb7.out) hb8.out) hb9.out) hb10.out) hb11.out) hb12.out) hb13.out) hb14.out) hb15.out) hb16.out)).turned hb17.out (.inl (Nat.lt_of_lt_of_le PB1.out.1 ((Nat.le_trans (Nat.le_trans (Nat.le_trans (Nat.le_trans hb2.out.size hb3.out.size) hb4.out.size) hb5.out.size) hb6.out.size))))).turned hb18.out (.inl (Nat.lt_of_lt_of_le PB1.out.1 ((Nat.le_trans (Nat.le_trans (Nat.le_trans (Nat.le_trans (Nat.le_trans hb2.out.size hb3.out.size) hb4.out.size) hb5.out.size) hb6.out.size) hb7.out.size))))).below hb19.out).turned hb20.out (.inl (Nat.lt_of_lt_of_le PB1.out.1 ((Nat.le_trans (Nat.le_trans (Nat.le_trans (Nat.le_trans (Nat.le_trans (Nat.le_trans (Nat.le_trans hb2.out.size hb3.out.size) hb4.out.size) hb5.out.size) hb6.out.size) hb7.out.size) hb8.out.size) hb9.out.size))))).below (two_worlds (two_worlds hb21.out hb22.out) hb23.out))).2 0 _ rfl, (((((((PB1.out.below (two_worlds (two_worlds (two_worlds (two_worlds (two_worlds (two_worlds (two_worlds (two_worlds (two_worlds (two_worlds (two_worlds (two_worlds (two_worlds (two_worlds hb2.out hb3.out) hb4.out) hb5.out) hb6.out) hb7.out) hb8.out) hb9.out) hb10.out) hb11.out) hb12.out) hb13.out) hb14.out) hb15.out) hb16.out)).turned hb17.out (.inl (Nat.lt_of_lt_of_le PB1.out.1 ((Nat.le_trans (Nat.le_trans (Nat.le_trans (Nat.le_trans hb2.out.size hb3.out.size) hb4.out.size) hb5.out.size) hb6.out.size))))).turned hb18.out (.inl (Nat.lt_of_lt_of_le PB1.out.1 ((Nat.le_trans (Nat.le_trans (Nat.le_trans (Nat.le_trans (Nat.le_trans hb2.out.size hb3.out.size) hb4.out.size) hb5.out.size) hb6.out.size) hb7.out.size))))).below hb19.out).turned hb20.out (.inl (Nat.lt_of_lt_of_le PB1.out.1 ((Nat.le_trans (Nat.le_trans (Nat.le_trans (Nat.le_trans (Nat.le_trans (Nat.le_trans (Nat.le_trans hb2.out.size hb3.out.size) hb4.out.size) hb5.out.size) hb6.out.size) hb7.out.size) hb8.out.size) hb9.out.size))))).below (two_worlds (two_worlds hb21.out hb22.out) hb23.out))).2 1 _ rfl⟩ | exact ⟨(((((((PB1.out.below (two_worlds (two_worlds (two_worlds (two_worlds (two_worlds (two_worlds (two_worlds (two_worlds (two_worlds (two_worlds (two_worlds (two_worlds (two_worlds (two_worlds hb2.out hb3.out) hb4.out) hb5.out) hb6.out) hb7.out) hb8.out) hb9.out) hb10.out) hb11.out) hb12.out) hb13.out) hb14.out) hb15.out) hb16.out)).turned hb17.out (.inl (Nat.lt_of_lt_of_le PB1.out.1 ((Nat.le_trans (Nat.le_trans (Nat.le_trans (Nat.le_trans hb2.out.size hb3.out.size) hb4.out.size) hb5.out.size) hb6.out.size))))).turned hb18.out (.inl (Nat.lt_of_lt_of_le PB1.out.1 ((Nat.le_trans (Nat.le_trans (Nat.le_trans (Nat.le_trans (Nat.le_trans hb2.out.size hb3.out.size) hb4.out.size) hb5.out.size) hb6.out.size) hb7.out.size))))).below hb19.out).turned hb20.out (.inl (Nat.lt_of_lt_of_le PB1.out.1 ((Nat.le_trans (Nat.le_trans (Nat.le_trans (Nat.le_trans (Nat.le_trans (Nat.le_trans (Nat.le_trans hb2.out.size hb3.out.size) hb4.out.size) hb5.out.size) hb6.out.size) hb7.out.size) hb8.out.size) hb9.out.size))))).below (two_worlds (two_worlds (two_worlds hb21.out hb22.out) hb23.out) hb24.out))).2 0 _ rfl, (((((((PB1.out.below (two_worlds (two_worlds (two_worlds (two_worlds (two_worlds (two_worlds (two_worlds (two_worlds (two_worlds (two_worlds (two_worlds (two_worlds (two_worlds (two_worlds hb2.out hb3.out) hb4.out) hb5.out) hb6.out) hb7.out) hb8.out) hb9.out) hb10.out) hb11.out) hb12.out) hb13.out) hb14.out) hb15.out) hb16.out)).turned hb17.out (.inl (Nat.lt_of_lt_of_le PB1.out.1 ((Nat.le_trans (Nat.le_trans (Nat.le_trans (Nat.le_trans hb2.out.size hb3.out.size) hb4.out.size) hb5.out.size) hb6.out.size))))).turned hb18.out (.inl (Nat.lt_of_lt_of_le PB1.out.1 ((Nat.le_trans (Nat.le_trans (Nat.le_trans (Nat.le_trans (Nat.le_trans hb2.out.size hb3.out.size) hb4.out.size) hb5.out.size) hb6.out.size) hb7.out.size))))).below hb19.out).turned hb20.out (.inl (Nat.lt_of_lt_of_le PB1.out.1 ((Nat.le_trans (Nat.le_trans (Nat.le_trans (Nat.le_trans (Nat.le_trans (Nat.le_trans (Nat.le_trans hb2.out.size hb3.out.size) hb4.out.size) hb5.out.size) hb6.out.size) hb7.out.size) hb8.out.size) hb9.out.size))))).below (two_worlds (two_worlds (two_worlds hb21.out hb22.out) hb23.out) hb24.out))).2 1 _ rfl⟩)
    (first | (go_at_call 19; refine (toInt64S_any _ l0 _ _ _ hn0 (HA0.out _ BB.out) hs0).mono ?_; rintro e w22 ⟨g0h, rfl, hg, hbx, ho⟩; have hb22 := Lib.hid hbx; replace BB := Lib.hid (Below.trans BB.out (Hid.out hb22 |>.mono BB.out.size)); clear hbx hg; have O0h := Lib.hid (Row.of ho); clear ho) | (go_at_call 30; refine (toRun_any _ t1 _ _ _ hn1 (HA1.out _ BB.out) hs1).mono ?_; rintro e w23 ⟨g1h, rfl, hg, hbx, ho⟩; have hb23 := Lib.hid hbx; replace BB := Lib.hid (Below.trans BB.out (Hid.out hb23 |>.mono BB.out.size)); clear hbx hg; have O1h := Lib.hid (Row.of ho); clear ho) | (go_at_call 15; refine (implSpansOf_any _ l0 hn0 (rowI_RI hn0 (O0h.out.below hb23.out).1) hs0 WF0 t1 hn1 (rowI_RI hn1 O1h.out.1) hs1 WF1).mono ?_; intro e w24 hgv; rw [RES.out] at hgv; obtain ⟨hbx, vh, rfl, ho⟩ := hgv; dsimp only at ho; obtain ⟨ah, ch, rfl⟩ := ho.shape; rw [HML.out] at ho ⊢; have hb24 := Lib.hid hbx; replace BB := Lib.hid (Below.trans BB.out (Hid.out hb24 |>.mono BB.out.size)); clear hbx; have Vh := Lib.hid ho; clear ho))
  go_wp2_with fail
  refine (eqInt64SS_any 1048576 (by unfold maxLen; omega) _ _ r0 r0 _ _ _ _ _ HML HML (Vh.out.rd cInt64S_len HML HLI.out) (((((((Vw.out.below (two_worlds (two_worlds (two_worlds (two_worlds (two_worlds (two_worlds (two_worlds (two_worlds (two_worlds hb7.out hb8.out) hb9.out) hb10.out) hb11.out) hb12.out) hb13.out) hb14.out) hb15.out) hb16.out)).turned hb17.out (.inl (Nat.le_refl _))).turned hb18.out (.inl (hb7.out.size))).below hb19.out).turned hb20.out (.inl ((Nat.le_trans (Nat.le_trans hb7.out.size hb8.out.size) hb9.out.size)))).below (two_worlds (two_worlds (two_worlds hb21.out hb22.out) hb23.out) hb24.out)).rd cInt64S_len HML HLI.out) HMM.out).mono ?_
  rintro e w25 ⟨rfl, hbx⟩
  rw [beqT r0]
  have hb25 := Lib.hid hbx
  replace BB := Lib.hid (Below.trans BB.out (Hid.out hb25 |>.mono BB.out.size))
  clear hbx
  go_wp2_with fail
  refine (heldInt64SS_any 1048576 _ r0 m _ 1 _ HML ((MK.out.below (two_worlds (two_worlds (two_worlds (two_worlds hb21.out hb22.out) hb23.out) hb24.out) hb25.out)).rd cInt64S_len ((markN_length _ _ _ _ _).trans HML.out) (fun i h => by rw [markN_len]; exact HLI.out i (by rw [← markN_length]; exact h))) HLJ (by omega) (by omega) (by omega)).mono ?_
  rintro e w' ⟨rfl, rfl⟩
  go_wp2
  go_ret
  exact ⟨rfl, BB.out⟩
end Go.Proofs.Ytgjbahnloladfaa.fnExactSpansOf
