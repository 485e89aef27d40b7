/-
  The walk of the law FnExactEndOfRun: it returns true at every input.
-/
import Derived.Test.YtgjbahnloladfaaEndOf6
import Derived.Test.YtgjbahnloladfaaInt64SMarks
import Derived.Test.YtgjbahnloladfaaRunMarks
namespace Go.Proofs.Ytgjbahnloladfaa.fnExactEndOfRun
open Go.RowKit
set_option maxRecDepth 20000 in
set_option maxHeartbeats 8000000 in
theorem walk {w : World} (v0 : Value) (l0 : List Int) (hw0 : NumsIn w v0 l0) (v1 : Value) (t1 : TRun) (hw1 : RunIn w v1 t1) :
    Calls Try.prog 8 #[v0, v1] w fun e w' => e = .returned (.bool true) ∧ Below w.heap.size w w' := by
  obtain ⟨a0, n0, c0, rfl, hn0, hmax0, hr0, wf0⟩ := hw0
  have WF0 := Lib.hid wf0
  have HA0 : Hid (∀ w', Below w.heap.size w w' → RI w' a0 l0) := fun w' h => hr0.below h
  have HM0 := Lib.hid hmax0
  unfold maxLen at hmax0
  clear hr0 wf0
  obtain ⟨a1, n1, c1, rfl, hn1, hmax1, hr1, wf1⟩ := hw1
  have WF1 := Lib.hid wf1
  have HA1 : Hid (∀ w', Below w.heap.size w w' → RI w' a1 t1.1) := fun w' h => hr1.below h
  have HM1 := Lib.hid hmax1
  unfold maxLen at hmax1
  clear hr1 wf1
  have BB : Hid (Below w.heap.size w w) := Below.refl _ _
  have PB1_ := Box.alloc w [.slice a1 n1 c1, .int .i64 t1.2] 47
  have hb1 : Hid (Below w.heap.size w (w.alloc (.cells #[.slice a1 n1 c1, .int .i64 t1.2] 47))) := (Below.refl _ _).alloc (Nat.le_refl _) _
  replace BB := Lib.hid (Below.trans BB.out (Hid.out hb1 |>.mono BB.out.size))
  have PB1 := Lib.hid PB1_
  clear PB1_
  go_enter Try.func8, Try.ntmps8
  by_cases hbig0 : 1048576 < n0
  · go_wp2
    go_ret
    exact ⟨rfl, BB.out⟩
  have hs0 : n0 ≤ 1048576 := by omega
  clear hbig0
  have pc1 := (PB1.out).2
  have pc1_0 := pc1 0 _ rfl
  have pc1_1 := pc1 1 _ rfl
  clear pc1
  go_wp2_with fail
  refine (szRun_any _ t1.2 _ _ 1048576 _ (by omega) (by omega) HM1.out).mono ?_
  rintro e w2 ⟨rfl, hbx⟩
  have hb2 := Lib.hid hbx
  replace BB := Lib.hid (Below.trans BB.out (Hid.out hb2 |>.mono BB.out.size))
  clear hbx
  clear pc1_0 pc1_1
  have hbd := leftOf_bounds 1048576 n1 (by omega)
  generalize hL : leftOf 1048576 n1 = L1 at hbd ⊢
  clear hL
  by_cases hneg : L1 < 0
  · clear hbd
    go_wp2
    go_ret
    exact ⟨rfl, BB.out⟩
  obtain ⟨_, hle1, hall⟩ := hbd
  have hs1 : n1 ≤ 1048576 := by have := hall (by omega); omega
  have hge1 : 0 ≤ L1 := by omega
  clear hneg hall
  obtain ⟨r0, r1, hres⟩ : ∃ r0 r1, endOf l0 t1 = (r0, r1) := ⟨_, _, rfl⟩
  have RES := Lib.hid hres
  clear hres
  have hb3 := Lib.hid (show Below w2.heap.size w2 w2.drew from (Below.refl _ _).drew)
  replace BB := Lib.hid (Below.trans BB.out (Hid.out hb3 |>.mono BB.out.size))
  go_wp2_with fail
  go_region_held3 (fun w' => w'.cell? ⟨w.heap.size, 0, none⟩ = some (.slice a1 n1 c1) ∧ w'.cell? ⟨w.heap.size, 1, none⟩ = some (.int .i64 t1.2))
    (first | exact ⟨((PB1.out.below (two_worlds hb2.out hb3.out))).2 0 _ rfl, ((PB1.out.below (two_worlds hb2.out hb3.out))).2 1 _ rfl⟩ | exact ⟨((PB1.out.below (two_worlds (two_worlds hb2.out hb3.out) hb4.out))).2 0 _ rfl, ((PB1.out.below (two_worlds (two_worlds hb2.out hb3.out) hb4.out))).2 1 _ rfl⟩ | exact ⟨((PB1.out.below (two_worlds (two_worlds (two_worlds hb2.out hb3.out) hb4.out) hb5.out))).2 0 _ rfl, ((PB1.out.below (two_worlds (two_worlds (two_worlds hb2.out hb3.out) hb4.out) hb5.out))).2 1 _ rfl⟩ | exact ⟨((PB1.out.below (two_worlds (two_worlds (two_worlds (two_worlds hb2.out hb3.out) hb4.out) hb5.out) hb6.out))).2 0 _ rfl, ((PB1.out.below (two_worlds (two_worlds (two_worlds (two_worlds hb2.out hb3.out) hb4.out) hb5.out) hb6.out))).2 1 _ rfl⟩)
    (first | (go_at_call 19; refine (toInt64S_any _ l0 _ _ _ hn0 (HA0.out _ BB.out) hs0).mono ?_; rintro e w4 ⟨g0s, rfl, hg, hbx, ho⟩; have hb4 := Lib.hid hbx; replace BB := Lib.hid (Below.trans BB.out (Hid.out hb4 |>.mono BB.out.size)); clear hbx hg; have O0s := Lib.hid (Row.of ho); clear ho) | (go_at_call 30; refine (toRun_any _ t1 _ _ _ hn1 (HA1.out _ BB.out) hs1).mono ?_; rintro e w5 ⟨g1s, rfl, hg, hbx, ho⟩; have hb5 := Lib.hid hbx; replace BB := Lib.hid (Below.trans BB.out (Hid.out hb5 |>.mono BB.out.size)); clear hbx hg; have O1s := Lib.hid (Row.of ho); clear ho) | (go_at_call 37; refine (specEndOfRun_any _ l0 hn0 (rowI_RI hn0 (O0s.out.below hb5.out).1) hs0 WF0 t1 hn1 (rowI_RI hn1 O1s.out.1) hs1 WF1).mono ?_; rintro e w6 ⟨rfl, hbx⟩; rw [RES.out]; dsimp only; have hb6 := Lib.hid hbx; replace BB := Lib.hid (Below.trans BB.out (Hid.out hb6 |>.mono BB.out.size)); clear hbx))
  go_wp2_with fail
  refine (toInt64S_any _ l0 _ _ _ hn0 (HA0.out _ BB.out) hs0).mono ?_
  rintro e w7 ⟨g0x, rfl, hg, hbx, ho⟩
  have hb7 := Lib.hid hbx
  replace BB := Lib.hid (Below.trans BB.out (Hid.out hb7 |>.mono BB.out.size))
  clear hbx hg
  have O0x := Lib.hid (Row.of ho)
  clear ho
  have pc1 := ((PB1.out.below (two_worlds (two_worlds (two_worlds (two_worlds (two_worlds hb2.out hb3.out) hb4.out) hb5.out) hb6.out) hb7.out))).2
  have pc1_0 := pc1 0 _ rfl
  have pc1_1 := pc1 1 _ rfl
  clear pc1
  go_wp2_with fail
  refine (toRun_any _ t1 _ _ _ hn1 (HA1.out _ BB.out) hs1).mono ?_
  rintro e w8 ⟨g1x, rfl, hg, hbx, ho⟩
  have hb8 := Lib.hid hbx
  replace BB := Lib.hid (Below.trans BB.out (Hid.out hb8 |>.mono BB.out.size))
  clear hbx hg
  clear pc1_0 pc1_1
  have O1x := Lib.hid (Row.of ho)
  clear ho
  have XB1 := Lib.hid (Box.alloc w8 [.slice (some ⟨g1x, 0, none⟩) n1 n1, .int .i64 t1.2] 34)
  have hb9 := Lib.hid (show Below w8.heap.size w8 (w8.alloc (.cells #[.slice (some ⟨g1x, 0, none⟩) n1 n1, .int .i64 t1.2] 34)) from (Below.refl _ _).alloc (Nat.le_refl _) _)
  replace BB := Lib.hid (Below.trans BB.out (Hid.out hb9 |>.mono BB.out.size))
  have xc1 := (XB1.out).2
  have xc1_0 := xc1 0 _ rfl
  have xc1_1 := xc1 1 _ rfl
  clear xc1
  go_wp2_with fail
  refine (implEndOfRun_any _ l0 hn0 (rowI_RI hn0 (O0x.out.below (two_worlds hb8.out hb9.out)).1) hs0 WF0 t1 hn1 (rowI_RI hn1 (O1x.out.below hb9.out).1) hs1 WF1).mono ?_
  rintro e w10 ⟨rfl, hbx⟩
  rw [RES.out]
  dsimp only
  have hb10 := Lib.hid hbx
  replace BB := Lib.hid (Below.trans BB.out (Hid.out hb10 |>.mono BB.out.size))
  clear hbx
  clear xc1_0 xc1_1
  go_wp2_with fail
  refine (toInt64S_any _ l0 _ _ _ hn0 (HA0.out _ BB.out) hs0).mono ?_
  rintro e w11 ⟨g0y0, rfl, hg, hbx, ho⟩
  have hb11 := Lib.hid hbx
  replace BB := Lib.hid (Below.trans BB.out (Hid.out hb11 |>.mono BB.out.size))
  clear hbx hg
  have O0y0 := Lib.hid (Row.of ho)
  clear ho
  go_wp2_with fail
  refine (eqInt64S_any _ _ l0 l0 _ _ _ _ _ hn0 hn0 (rowI_RI hn0 (O0x.out.below (two_worlds (two_worlds (two_worlds hb8.out hb9.out) hb10.out) hb11.out)).1) (rowI_RI hn0 O0y0.out.1) HM0.out).mono ?_
  rintro e w12 ⟨rfl, hbx⟩
  rw [beqT l0]
  have hb12 := Lib.hid hbx
  replace BB := Lib.hid (Below.trans BB.out (Hid.out hb12 |>.mono BB.out.size))
  clear hbx
  have hb13 := Lib.hid (show Below w12.heap.size w12 w12.drew from (Below.refl _ _).drew)
  replace BB := Lib.hid (Below.trans BB.out (Hid.out hb13 |>.mono BB.out.size))
  go_wp2_with fail
  go_region_held3 (fun w' => w'.cell? ⟨w8.heap.size, 0, none⟩ = some (.slice (some ⟨g1x, 0, none⟩) n1 n1) ∧ w'.cell? ⟨w8.heap.size, 1, none⟩ = some (.int .i64 t1.2) ∧ w'.cell? ⟨w.heap.size, 0, none⟩ = some (.slice a1 n1 c1) ∧ w'.cell? ⟨w.heap.size, 1, none⟩ = some (.int .i64 t1.2))
    (first | exact ⟨((XB1.out.below (two_worlds (two_worlds (two_worlds hb10.out hb11.out) hb12.out) hb13.out))).2 0 _ rfl, ((XB1.out.below (two_worlds (two_worlds (two_worlds hb10.out hb11.out) hb12.out) hb13.out))).2 1 _ rfl, ((PB1.out.below (two_worlds (two_worlds (two_worlds (two_worlds (two_worlds (two_worlds (two_worlds (two_worlds (two_worlds (two_worlds (two_worlds hb2.out hb3.out) hb4.out) hb5.out) hb6.out) hb7.out) hb8.out) hb9.out) hb10.out) hb11.out) hb12.out) hb13.out))).2 0 _ rfl, ((PB1.out.below (two_worlds (two_worlds (two_worlds (two_worlds (two_worlds (two_worlds (two_worlds (two_worlds (two_worlds (two_worlds (two_worlds hb2.out hb3.out) hb4.out) hb5.out) hb6.out) hb7.out) hb8.out) hb9.out) hb10.out) hb11.out) hb12.out) hb13.out))).2 1 _ rfl⟩ | exact ⟨((XB1.out.below (two_worlds (two_worlds (two_worlds (two_worlds hb10.out hb11.out) hb12.out) hb13.out) hb14.out))).2 0 _ rfl, ((XB1.out.below (two_worlds (two_worlds (two_worlds (two_worlds hb10.out hb11.out) hb12.out) hb13.out) hb14.out))).2 1 _ rfl, ((PB1.out.below (two_worlds (two_worlds (two_worlds (two_worlds (two_worlds (two_worlds (two_worlds (two_worlds (two_worlds (two_worlds (two_worlds (two_worlds hb2.out hb3.out) hb4.out) hb5.out) hb6.out) hb7.out) hb8.out) hb9.out) hb10.out) hb11.out) hb12.out) hb13.out) hb14.out))).2 0 _ rfl, ((PB1.out.below (two_worlds (two_worlds (two_worlds (two_worlds (two_worlds (two_worlds (two_worlds (two_worlds (two_worlds (two_worlds (two_worlds (two_worlds hb2.out hb3.out) hb4.out) hb5.out) hb6.out) hb7.out) hb8.out) hb9.out) hb10.out) hb11.out) hb12.out) hb13.out) hb14.out))).2 1 _ rfl⟩ | exact ⟨((XB1.out.below (two_worlds (two_worlds (two_worlds (two_worlds (two_worlds hb10.out hb11.out) hb12.out) hb13.out) hb14.out) hb15.out))).2 0 _ rfl, ((XB1.out.below (two_worlds (two_worlds (two_worlds (two_worlds (two_worlds hb10.out hb11.out) hb12.out) hb13.out) hb14.out) hb15.out))).2 1 _ rfl, ((PB1.out.below (two_worlds (two_worlds (two_worlds (two_worlds (two_worlds (two_worlds (two_worlds (two_worlds (two_worlds (two_worlds (two_worlds (two_worlds (two_worlds hb2.out hb3.out) hb4.out) hb5.out) hb6.out) hb7.out) hb8.out) hb9.out) hb10.out) hb11.out) hb12.out) hb13.out) hb14.out) hb15.out))).2 0 _ rfl, ((PB1.out.below (two_worlds (two_worlds (two_worlds (two_worlds (two_worlds (two_worlds (two_worlds (two_worlds (two_worlds (two_worlds (two_worlds (two_worlds (two_worlds hb2.out hb3.out) hb4.out) hb5.out) hb6.out) hb7.out) hb8.out) hb9.out) hb10.out) hb11.out) hb12.out) hb13.out) hb14.out) hb15.out))).2 1 _ rfl⟩)
    (first | (go_at_call 30; refine (toRun_any _ t1 _ _ _ hn1 (HA1.out _ BB.out) hs1).mono ?_; rintro e w14 ⟨g1y1, rfl, hg, hbx, ho⟩; have hb14 := Lib.hid hbx; replace BB := Lib.hid (Below.trans BB.out (Hid.out hb14 |>.mono BB.out.size)); clear hbx hg; have O1y1 := Lib.hid (Row.of ho); clear ho) | (go_at_call 32; refine (eqRun_any _ _ t1 t1 _ _ _ _ _ hn1 hn1 (rowI_RI hn1 (O1x.out.below (two_worlds (two_worlds (two_worlds (two_worlds (two_worlds hb9.out hb10.out) hb11.out) hb12.out) hb13.out) hb14.out)).1) (rowI_RI hn1 O1y1.out.1) HM1.out).mono ?_; rintro e w15 ⟨rfl, hbx⟩; rw [beqT t1]; have hb15 := Lib.hid hbx; replace BB := Lib.hid (Below.trans BB.out (Hid.out hb15 |>.mono BB.out.size)); clear hbx))
  go_wp2
  go_ret
  exact ⟨rfl, BB.out⟩
end Go.Proofs.Ytgjbahnloladfaa.fnExactEndOfRun
