/-
  The walk of the law FnExactSameZoned: it returns true at every input.
-/
import Derived.Test.YtfejgckimlgopaaSameZ
import Derived.Test.YtfejgckimlgopaaZoned
namespace Go.Proofs.Ytfejgckimlgopaa.fnExactSameZoned
open Go.RowKit
set_option maxRecDepth 20000 in
set_option maxHeartbeats 8000000 in
theorem walk {w : World} (v0 : Value) (t0 : TZoned) (hw0 : ZonedIn w v0 t0) (v1 : Value) (t1 : TZoned) (hw1 : ZonedIn w v1 t1) :
    Calls Try.prog 5 #[v0, v1] w fun e w' => e = .returned (.bool true) ∧ Below w.heap.size w w' := by
  obtain ⟨a0, n0, c0, b0, m0, d0, rfl, hn0, hmax0, hr0, hy0, hmay0, hq0, wf0⟩ := hw0
  have WF0 := Lib.hid wf0
  have HA0 : Hid (∀ w', Below w.heap.size w w' → RI w' a0 t0.2.1) := fun w' h => hr0.below h
  have HC0 : Hid (∀ w', Below w.heap.size w w' → RR 3 cChange w' b0 t0.2.2) := fun w' h => hq0.below h
  have HM0 := Lib.hid hmax0
  have HN0 := Lib.hid hmay0
  unfold maxLen at hmax0 hmay0
  clear hr0 hq0 wf0
  obtain ⟨a1, n1, c1, b1, m1, d1, rfl, hn1, hmax1, hr1, hy1, hmay1, hq1, wf1⟩ := hw1
  have WF1 := Lib.hid wf1
  have HA1 : Hid (∀ w', Below w.heap.size w w' → RI w' a1 t1.2.1) := fun w' h => hr1.below h
  have HC1 : Hid (∀ w', Below w.heap.size w w' → RR 3 cChange w' b1 t1.2.2) := fun w' h => hq1.below h
  have HM1 := Lib.hid hmax1
  have HN1 := Lib.hid hmay1
  unfold maxLen at hmax1 hmay1
  clear hr1 hq1 wf1
  have BB : Hid (Below w.heap.size w w) := Below.refl _ _
  have PB0_ := Box.alloc w [.int .i64 t0.1, .slice a0 n0 c0, .slice b0 m0 d0] 47
  have hb1 : Hid (Below w.heap.size w (w.alloc (.cells #[.int .i64 t0.1, .slice a0 n0 c0, .slice b0 m0 d0] 47))) := (Below.refl _ _).alloc (Nat.le_refl _) _
  replace BB := Lib.hid (Below.trans BB.out (Hid.out hb1 |>.mono BB.out.size))
  have PB1_ : Box ((w.alloc (.cells #[.int .i64 t0.1, .slice a0 n0 c0, .slice b0 m0 d0] 47)).alloc (.cells #[.int .i64 t1.1, .slice a1 n1 c1, .slice b1 m1 d1] 47)) (w.heap.size + 1) [.int .i64 t1.1, .slice a1 n1 c1, .slice b1 m1 d1] := by have h := Box.alloc (w.alloc (.cells #[.int .i64 t0.1, .slice a0 n0 c0, .slice b0 m0 d0] 47)) [.int .i64 t1.1, .slice a1 n1 c1, .slice b1 m1 d1] 47; rw [show (w.alloc (.cells #[.int .i64 t0.1, .slice a0 n0 c0, .slice b0 m0 d0] 47)).heap.size = (w.heap.size + 1) by simp] at h; exact h
  have hb2 : Hid (Below (w.alloc (.cells #[.int .i64 t0.1, .slice a0 n0 c0, .slice b0 m0 d0] 47)).heap.size (w.alloc (.cells #[.int .i64 t0.1, .slice a0 n0 c0, .slice b0 m0 d0] 47)) ((w.alloc (.cells #[.int .i64 t0.1, .slice a0 n0 c0, .slice b0 m0 d0] 47)).alloc (.cells #[.int .i64 t1.1, .slice a1 n1 c1, .slice b1 m1 d1] 47))) := (Below.refl _ _).alloc (Nat.le_refl _) _
  replace BB := Lib.hid (Below.trans BB.out (Hid.out hb2 |>.mono BB.out.size))
  have PB0 := Lib.hid PB0_
  clear PB0_
  have PB1 := Lib.hid PB1_
  clear PB1_
  go_enter Try.func5, Try.ntmps5
  have pc0 := ((PB0.out.below hb2.out)).2
  have pc0_0 := pc0 0 _ rfl
  have pc0_1 := pc0 1 _ rfl
  have pc0_2 := pc0 2 _ rfl
  clear pc0
  go_wp2_with fail
  refine (szZoned_any _ _ _ _ _ _ _ 1048576 _ (by omega) (by omega) HM0.out HN0.out).mono ?_
  rintro e w3 ⟨rfl, hbx⟩
  have hb3 := Lib.hid hbx
  replace BB := Lib.hid (Below.trans BB.out (Hid.out hb3 |>.mono BB.out.size))
  clear hbx
  clear pc0_0 pc0_1 pc0_2
  have hbd := szZ_bounds 1048576 n0 m0 (by omega)
  generalize hL : szZ 1048576 n0 m0 = L0 at hbd ⊢
  clear hL
  by_cases hneg : L0 < 0
  · clear hbd
    go_wp2
    go_ret
    exact ⟨rfl, BB.out⟩
  obtain ⟨_, hle0, hall⟩ := hbd
  have hs0 : n0 ≤ 1048576 := by have := (hall (by omega)).1; omega
  have ht0 : m0 ≤ 1048576 := by have := (hall (by omega)).2; omega
  have hge0 : 0 ≤ L0 := by omega
  clear hneg hall
  have pc1 := ((PB1.out.below hb3.out)).2
  have pc1_0 := pc1 0 _ rfl
  have pc1_1 := pc1 1 _ rfl
  have pc1_2 := pc1 2 _ rfl
  clear pc1
  go_wp2_with fail
  refine (szZoned_any _ _ _ _ _ _ _ L0 _ (by omega) (by omega) HM1.out HN1.out).mono ?_
  rintro e w4 ⟨rfl, hbx⟩
  have hb4 := Lib.hid hbx
  replace BB := Lib.hid (Below.trans BB.out (Hid.out hb4 |>.mono BB.out.size))
  clear hbx
  clear pc1_0 pc1_1 pc1_2
  have hbd := szZ_bounds L0 n1 m1 (by omega)
  generalize hL : szZ L0 n1 m1 = L1 at hbd ⊢
  clear hL
  by_cases hneg : L1 < 0
  · clear hbd
    go_wp2
    go_ret
    exact ⟨rfl, BB.out⟩
  obtain ⟨_, hle1, hall⟩ := hbd
  have hs1 : n1 ≤ 1048576 := by have := (hall (by omega)).1; omega
  have ht1 : m1 ≤ 1048576 := by have := (hall (by omega)).2; omega
  have hge1 : 0 ≤ L1 := by omega
  clear hneg hall
  obtain ⟨r0, hres⟩ : ∃ r0, (t0 == t1) = r0 := ⟨_, rfl⟩
  have RES := Lib.hid hres
  clear hres
  have hb5 := Lib.hid (show Below w4.heap.size w4 w4.drew from (Below.refl _ _).drew)
  replace BB := Lib.hid (Below.trans BB.out (Hid.out hb5 |>.mono BB.out.size))
  go_wp2_with fail
  go_region_held3 (fun w' => w'.cell? ⟨w.heap.size, 0, none⟩ = some (.int .i64 t0.1) ∧ w'.cell? ⟨w.heap.size, 1, none⟩ = some (.slice a0 n0 c0) ∧ w'.cell? ⟨w.heap.size, 2, none⟩ = some (.slice b0 m0 d0) ∧ w'.cell? ⟨(w.heap.size + 1), 0, none⟩ = some (.int .i64 t1.1) ∧ w'.cell? ⟨(w.heap.size + 1), 1, none⟩ = some (.slice a1 n1 c1) ∧ w'.cell? ⟨(w.heap.size + 1), 2, none⟩ = some (.slice b1 m1 d1))
    (first | exact ⟨((PB0.out.below (two_worlds (two_worlds (two_worlds hb2.out hb3.out) hb4.out) hb5.out))).2 0 _ rfl, ((PB0.out.below (two_worlds (two_worlds (two_worlds hb2.out hb3.out) hb4.out) hb5.out))).2 1 _ rfl, ((PB0.out.below (two_worlds (two_worlds (two_worlds hb2.out hb3.out) hb4.out) hb5.out))).2 2 _ rfl, ((PB1.out.below (two_worlds (two_worlds hb3.out hb4.out) hb5.out))).2 0 _ rfl, ((PB1.out.below (two_worlds (two_worlds hb3.out hb4.out) hb5.out))).2 1 _ rfl, ((PB1.out.below (two_worlds (two_worlds hb3.out hb4.out) hb5.out))).2 2 _ rfl⟩ | exact ⟨((PB0.out.below (two_worlds (two_worlds (two_worlds (two_worlds hb2.out hb3.out) hb4.out) hb5.out) hb6.out))).2 0 _ rfl, ((PB0.out.below (two_worlds (two_worlds (two_worlds (two_worlds hb2.out hb3.out) hb4.out) hb5.out) hb6.out))).2 1 _ rfl, ((PB0.out.below (two_worlds (two_worlds (two_worlds (two_worlds hb2.out hb3.out) hb4.out) hb5.out) hb6.out))).2 2 _ rfl, ((PB1.out.below (two_worlds (two_worlds (two_worlds hb3.out hb4.out) hb5.out) hb6.out))).2 0 _ rfl, ((PB1.out.below (two_worlds (two_worlds (two_worlds hb3.out hb4.out) hb5.out) hb6.out))).2 1 _ rfl, ((PB1.out.below (two_worlds (two_worlds (two_worlds hb3.out hb4.out) hb5.out) hb6.out))).2 2 _ rfl⟩ | exact ⟨((PB0.out.below (two_worlds (two_worlds (two_worlds (two_worlds (two_worlds hb2.out hb3.out) hb4.out) hb5.out) hb6.out) hb7.out))).2 0 _ rfl, ((PB0.out.below (two_worlds (two_worlds (two_worlds (two_worlds (two_worlds hb2.out hb3.out) hb4.out) hb5.out) hb6.out) hb7.out))).2 1 _ rfl, ((PB0.out.below (two_worlds (two_worlds (two_worlds (two_worlds (two_worlds hb2.out hb3.out) hb4.out) hb5.out) hb6.out) hb7.out))).2 2 _ rfl, ((PB1.out.below (two_worlds (two_worlds (two_worlds (two_worlds hb3.out hb4.out) hb5.out) hb6.out) hb7.out))).2 0 _ rfl, ((PB1.out.below (two_worlds (two_worlds (two_worlds (two_worlds hb3.out hb4.out) hb5.out) hb6.out) hb7.out))).2 1 _ rfl, ((PB1.out.below (two_worlds (two_worlds (two_worlds (two_worlds hb3.out hb4.out) hb5.out) hb6.out) hb7.out))).2 2 _ rfl⟩ | exact ⟨((PB0.out.below (two_worlds (two_worlds (two_worlds (two_worlds (two_worlds (two_worlds hb2.out hb3.out) hb4.out) hb5.out) hb6.out) hb7.out) hb8.out))).2 0 _ rfl, ((PB0.out.below (two_worlds (two_worlds (two_worlds (two_worlds (two_worlds (two_worlds hb2.out hb3.out) hb4.out) hb5.out) hb6.out) hb7.out) hb8.out))).2 1 _ rfl, ((PB0.out.below (two_worlds (two_worlds (two_worlds (two_worlds (two_worlds (two_worlds hb2.out hb3.out) hb4.out) hb5.out) hb6.out) hb7.out) hb8.out))).2 2 _ rfl, ((PB1.out.below (two_worlds (two_worlds (two_worlds (two_worlds (two_worlds hb3.out hb4.out) hb5.out) hb6.out) hb7.out) hb8.out))).2 0 _ rfl, ((PB1.out.below (two_worlds (two_worlds (two_worlds (two_worlds (two_worlds hb3.out hb4.out) hb5.out) hb6.out) hb7.out) hb8.out))).2 1 _ rfl, ((PB1.out.below (two_worlds (two_worlds (two_worlds (two_worlds (two_worlds hb3.out hb4.out) hb5.out) hb6.out) hb7.out) hb8.out))).2 2 _ rfl⟩)
    (first | (go_at_call_of 36 a0; refine (toZoned_any _ _ t0 _ _ _ _ _ hn0 (HA0.out _ BB.out) hs0 hy0 (HC0.out _ BB.out) ht0).mono ?_; rintro e w6 ⟨g0s, q0s, rfl, hbx, ho⟩; have hb6 := Lib.hid hbx; replace BB := Lib.hid (Below.trans BB.out (Hid.out hb6 |>.mono BB.out.size)); clear hbx; have O0s := Lib.hid ho; clear ho) | (go_at_call_of 36 a1; refine (toZoned_any _ _ t1 _ _ _ _ _ hn1 (HA1.out _ BB.out) hs1 hy1 (HC1.out _ BB.out) ht1).mono ?_; rintro e w7 ⟨g1s, q1s, rfl, hbx, ho⟩; have hb7 := Lib.hid hbx; replace BB := Lib.hid (Below.trans BB.out (Hid.out hb7 |>.mono BB.out.size)); clear hbx; have O1s := Lib.hid ho; clear ho) | (go_at_call 39; refine (specSameZoned_any _ t0 hn0 ((O0s.out.below hb7.out).rdI hn0) hs0 hy0 ((O0s.out.below hb7.out).rdC hy0) ht0 WF0 t1 hn1 (O1s.out.rdI hn1) hs1 hy1 (O1s.out.rdC hy1) ht1 WF1).mono ?_; rintro e w8 ⟨rfl, hbx⟩; rw [RES.out]; dsimp only; have hb8 := Lib.hid hbx; replace BB := Lib.hid (Below.trans BB.out (Hid.out hb8 |>.mono BB.out.size)); clear hbx))
  have pc0 := ((PB0.out.below (two_worlds (two_worlds (two_worlds (two_worlds (two_worlds (two_worlds hb2.out hb3.out) hb4.out) hb5.out) hb6.out) hb7.out) hb8.out))).2
  have pc0_0 := pc0 0 _ rfl
  have pc0_1 := pc0 1 _ rfl
  have pc0_2 := pc0 2 _ rfl
  clear pc0
  go_wp2_with fail
  refine (toZoned_any _ _ t0 _ _ _ _ _ hn0 (HA0.out _ BB.out) hs0 hy0 (HC0.out _ BB.out) ht0).mono ?_
  rintro e w9 ⟨g0x, q0x, rfl, hbx, ho⟩
  have hb9 := Lib.hid hbx
  replace BB := Lib.hid (Below.trans BB.out (Hid.out hb9 |>.mono BB.out.size))
  clear hbx
  clear pc0_0 pc0_1 pc0_2
  have O0x := Lib.hid ho
  clear ho
  have XB0 := Lib.hid (Box.alloc w9 [.int .i64 t0.1, .slice (some ⟨g0x, 0, none⟩) n0 n0, .slice (some ⟨q0x, 0, none⟩) m0 m0] 27)
  have hb10 := Lib.hid (show Below w9.heap.size w9 (w9.alloc (.cells #[.int .i64 t0.1, .slice (some ⟨g0x, 0, none⟩) n0 n0, .slice (some ⟨q0x, 0, none⟩) m0 m0] 27)) from (Below.refl _ _).alloc (Nat.le_refl _) _)
  replace BB := Lib.hid (Below.trans BB.out (Hid.out hb10 |>.mono BB.out.size))
  have pc1 := ((PB1.out.below (two_worlds (two_worlds (two_worlds (two_worlds (two_worlds (two_worlds (two_worlds hb3.out hb4.out) hb5.out) hb6.out) hb7.out) hb8.out) hb9.out) hb10.out))).2
  have pc1_0 := pc1 0 _ rfl
  have pc1_1 := pc1 1 _ rfl
  have pc1_2 := pc1 2 _ rfl
  clear pc1
  go_wp2_with fail
  refine (toZoned_any _ _ t1 _ _ _ _ _ hn1 (HA1.out _ BB.out) hs1 hy1 (HC1.out _ BB.out) ht1).mono ?_
  rintro e w11 ⟨g1x, q1x, rfl, hbx, ho⟩
  have hb11 := Lib.hid hbx
  replace BB := Lib.hid (Below.trans BB.out (Hid.out hb11 |>.mono BB.out.size))
  clear hbx
  clear pc1_0 pc1_1 pc1_2
  have O1x := Lib.hid ho
  clear ho
  have XB1 := Lib.hid (Box.alloc w11 [.int .i64 t1.1, .slice (some ⟨g1x, 0, none⟩) n1 n1, .slice (some ⟨q1x, 0, none⟩) m1 m1] 27)
  have hb12 := Lib.hid (show Below w11.heap.size w11 (w11.alloc (.cells #[.int .i64 t1.1, .slice (some ⟨g1x, 0, none⟩) n1 n1, .slice (some ⟨q1x, 0, none⟩) m1 m1] 27)) from (Below.refl _ _).alloc (Nat.le_refl _) _)
  replace BB := Lib.hid (Below.trans BB.out (Hid.out hb12 |>.mono BB.out.size))
  have xc0 := ((XB0.out.below (two_worlds hb11.out hb12.out))).2
  have xc0_0 := xc0 0 _ rfl
  have xc0_1 := xc0 1 _ rfl
  have xc0_2 := xc0 2 _ rfl
  clear xc0
  have xc1 := (XB1.out).2
  have xc1_0 := xc1 0 _ rfl
  have xc1_1 := xc1 1 _ rfl
  have xc1_2 := xc1 2 _ rfl
  clear xc1
  go_wp2_with fail
  refine (implSameZoned_any _ t0 hn0 ((O0x.out.below (two_worlds (two_worlds hb10.out hb11.out) hb12.out)).rdI hn0) hs0 hy0 ((O0x.out.below (two_worlds (two_worlds hb10.out hb11.out) hb12.out)).rdC hy0) ht0 WF0 t1 hn1 ((O1x.out.below hb12.out).rdI hn1) hs1 hy1 ((O1x.out.below hb12.out).rdC hy1) ht1 WF1).mono ?_
  rintro e w13 ⟨rfl, hbx⟩
  rw [RES.out]
  dsimp only
  have hb13 := Lib.hid hbx
  replace BB := Lib.hid (Below.trans BB.out (Hid.out hb13 |>.mono BB.out.size))
  clear hbx
  clear xc0_0 xc0_1 xc0_2
  clear xc1_0 xc1_1 xc1_2
  have hb14 := Lib.hid (show Below w13.heap.size w13 w13.drew from (Below.refl _ _).drew)
  replace BB := Lib.hid (Below.trans BB.out (Hid.out hb14 |>.mono BB.out.size))
  go_wp2_with fail
  go_region_held3 (fun w' => w'.cell? ⟨w9.heap.size, 0, none⟩ = some (.int .i64 t0.1) ∧ w'.cell? ⟨w9.heap.size, 1, none⟩ = some (.slice (some ⟨g0x, 0, none⟩) n0 n0) ∧ w'.cell? ⟨w9.heap.size, 2, none⟩ = some (.slice (some ⟨q0x, 0, none⟩) m0 m0) ∧ w'.cell? ⟨w.heap.size, 0, none⟩ = some (.int .i64 t0.1) ∧ w'.cell? ⟨w.heap.size, 1, none⟩ = some (.slice a0 n0 c0) ∧ w'.cell? ⟨w.heap.size, 2, none⟩ = some (.slice b0 m0 d0))
    (first | exact ⟨((XB0.out.below (two_worlds (two_worlds (two_worlds hb11.out hb12.out) hb13.out) hb14.out))).2 0 _ rfl, ((XB0.out.below (two_worlds (two_worlds (two_worlds hb11.out hb12.out) hb13.out) hb14.out))).2 1 _ rfl, ((XB0.out.below (two_worlds (two_worlds (two_worlds hb11.out hb12.out) hb13.out) hb14.out))).2 2 _ rfl, ((PB0.out.below (two_worlds (two_worlds (two_worlds (two_worlds (two_worlds (two_worlds (two_worlds (two_worlds (two_worlds (two_worlds (two_worlds (two_worlds hb2.out hb3.out) hb4.out) hb5.out) hb6.out) hb7.out) hb8.out) hb9.out) hb10.out) hb11.out) hb12.out) hb13.out) hb14.out))).2 0 _ rfl, ((PB0.out.below (two_worlds (two_worlds (two_worlds (two_worlds (two_worlds (two_worlds (two_worlds (two_worlds (two_worlds (two_worlds (two_worlds (two_worlds hb2.out hb3.out) hb4.out) hb5.out) hb6.out) hb7.out) hb8.out) hb9.out) hb10.out) hb11.out) hb12.out) hb13.out) hb14.out))).2 1 _ rfl, ((PB0.out.below (two_worlds (two_worlds (two_worlds (two_worlds (two_worlds (two_worlds (two_worlds (two_worlds (two_worlds (two_worlds (two_worlds (two_worlds hb2.out hb3.out) hb4.out) hb5.out) hb6.out) hb7.out) hb8.out) hb9.out) hb10.out) hb11.out) hb12.out) hb13.out) hb14.out))).2 2 _ rfl⟩ | exact ⟨((XB0.out.below (two_worlds (two_worlds (two_worlds (two_worlds hb11.out hb12.out) hb13.out) hb14.out) hb15.out))).2 0 _ rfl, ((XB0.out.below (two_worlds (two_worlds (two_worlds (two_worlds hb11.out hb12.out) hb13.out) hb14.out) hb15.out))).2 1 _ rfl, ((XB0.out.below (two_worlds (two_worlds (two_worlds (two_worlds hb11.out hb12.out) hb13.out) hb14.out) hb15.out))).2 2 _ rfl, ((PB0.out.below (two_worlds (two_worlds (two_worlds (two_worlds (two_worlds (two_worlds (two_worlds (two_worlds (two_worlds (two_worlds (two_worlds (two_worlds (two_worlds hb2.out hb3.out) hb4.out) hb5.out) hb6.out) hb7.out) hb8.out) hb9.out) hb10.out) hb11.out) hb12.out) hb13.out) hb14.out) hb15.out))).2 0 _ rfl, ((PB0.out.below (two_worlds (two_worlds (two_worlds (two_worlds (two_worlds (two_worlds (two_worlds (two_worlds (two_worlds (two_worlds (two_worlds (two_worlds (two_worlds hb2.out hb3.out) hb4.out) hb5.out) hb6.out) hb7.out) hb8.out) hb9.out) hb10.out) hb11.out) hb12.out) hb13.out) hb14.out) hb15.out))).2 1 _ rfl, ((PB0.out.below (two_worlds (two_worlds (two_worlds (two_worlds (two_worlds (two_worlds (two_worlds (two_worlds (two_worlds (two_worlds (two_worlds (two_worlds (two_worlds hb2.out hb3.out) hb4.out) hb5.out) hb6.out) hb7.out) hb8.out) hb9.out) hb10.out) hb11.out) hb12.out) hb13.out) hb14.out) hb15.out))).2 2 _ rfl⟩ | exact ⟨((XB0.out.below (two_worlds (two_worlds (two_worlds (two_worlds (two_worlds hb11.out hb12.out) hb13.out) hb14.out) hb15.out) hb16.out))).2 0 _ rfl, ((XB0.out.below (two_worlds (two_worlds (two_worlds (two_worlds (two_worlds hb11.out hb12.out) hb13.out) hb14.out) hb15.out) hb16.out))).2 1 _ rfl, ((XB0.out.below (two_worlds (two_worlds (two_worlds (two_worlds (two_worlds hb11.out hb12.out) hb13.out) hb14.out) hb15.out) hb16.out))).2 2 _ rfl, ((PB0.out.below (two_worlds (two_worlds (two_worlds (two_worlds (two_worlds (two_worlds (two_worlds (two_worlds (two_worlds (two_worlds (two_worlds (two_worlds (two_worlds (two_worlds hb2.out hb3.out) hb4.out) hb5.out) hb6.out) hb7.out) hb8.out) hb9.out) hb10.out) hb11.out) hb12.out) hb13.out) hb14.out) hb15.out) hb16.out))).2 0 _ rfl, ((PB0.out.below (two_worlds (two_worlds (two_worlds (two_worlds (two_worlds (two_worlds (two_worlds (two_worlds (two_worlds (two_worlds (two_worlds (two_worlds (two_worlds (two_worlds hb2.out hb3.out) hb4.out) hb5.out) hb6.out) hb7.out) hb8.out) hb9.out) hb10.out) hb11.out) hb12.out) hb13.out) hb14.out) hb15.out) hb16.out))).2 1 _ rfl, ((PB0.out.below (two_worlds (two_worlds (two_worlds (two_worlds (two_worlds (two_worlds (two_worlds (two_worlds (two_worlds (two_worlds (two_worlds (two_worlds (two_worlds (two_worlds hb2.out hb3.out) hb4.out) hb5.out) hb6.out) hb7.out) hb8.out) hb9.out) hb10.out) hb11.out) hb12.out) hb13.out) hb14.out) hb15.out) hb16.out))).2 2 _ rfl⟩)
    (first | (go_at_call_of 36 a0; refine (toZoned_any _ _ t0 _ _ _ _ _ hn0 (HA0.out _ BB.out) hs0 hy0 (HC0.out _ BB.out) ht0).mono ?_; rintro e w15 ⟨g0y0, q0y0, rfl, hbx, ho⟩; have hb15 := Lib.hid hbx; replace BB := Lib.hid (Below.trans BB.out (Hid.out hb15 |>.mono BB.out.size)); clear hbx; have O0y0 := Lib.hid ho; clear ho) | (go_at_call 38; refine (eqZoned_any _ _ _ _ t0 t0 _ _ _ _ _ _ _ _ _ hn0 hn0 hy0 hy0 ((O0x.out.below (two_worlds (two_worlds (two_worlds (two_worlds (two_worlds hb10.out hb11.out) hb12.out) hb13.out) hb14.out) hb15.out)).rdI hn0) (O0y0.out.rdI hn0) ((O0x.out.below (two_worlds (two_worlds (two_worlds (two_worlds (two_worlds hb10.out hb11.out) hb12.out) hb13.out) hb14.out) hb15.out)).rdC hy0) (O0y0.out.rdC hy0) HM0.out HN0.out).mono ?_; rintro e w16 ⟨rfl, hbx⟩; rw [beqT t0]; have hb16 := Lib.hid hbx; replace BB := Lib.hid (Below.trans BB.out (Hid.out hb16 |>.mono BB.out.size)); clear hbx))
  have hb17 := Lib.hid (show Below w16.heap.size w16 w16.drew from (Below.refl _ _).drew)
  replace BB := Lib.hid (Below.trans BB.out (Hid.out hb17 |>.mono BB.out.size))
  go_wp2_with fail
  go_region_held3 (fun w' => w'.cell? ⟨w11.heap.size, 0, none⟩ = some (.int .i64 t1.1) ∧ w'.cell? ⟨w11.heap.size, 1, none⟩ = some (.slice (some ⟨g1x, 0, none⟩) n1 n1) ∧ w'.cell? ⟨w11.heap.size, 2, none⟩ = some (.slice (some ⟨q1x, 0, none⟩) m1 m1) ∧ w'.cell? ⟨(w.heap.size + 1), 0, none⟩ = some (.int .i64 t1.1) ∧ w'.cell? ⟨(w.heap.size + 1), 1, none⟩ = some (.slice a1 n1 c1) ∧ w'.cell? ⟨(w.heap.size + 1), 2, none⟩ = some (.slice b1 m1 d1))
    (first | exact ⟨((XB1.out.below (two_worlds (two_worlds (two_worlds (two_worlds hb13.out hb14.out) hb15.out) hb16.out) hb17.out))).2 0 _ rfl, ((XB1.out.below (two_worlds (two_worlds (two_worlds (two_worlds hb13.out hb14.out) hb15.out) hb16.out) hb17.out))).2 1 _ rfl, ((XB1.out.below (two_worlds (two_worlds (two_worlds (two_worlds hb13.out hb14.out) hb15.out) hb16.out) hb17.out))).2 2 _ rfl, ((PB1.out.below (two_worlds (two_worlds (two_worlds (two_worlds (two_worlds (two_worlds (two_worlds (two_worlds (two_worlds (two_worlds (two_worlds (two_worlds (two_worlds (two_worlds hb3.out hb4.out) hb5.out) hb6.out) hb7.out) hb8.out) hb9.out) hb10.out) hb11.out) hb12.out) hb13.out) hb14.out) hb15.out) hb16.out) hb17.out))).2 0 _ rfl, ((PB1.out.below (two_worlds (two_worlds (two_worlds (two_worlds (two_worlds (two_worlds (two_worlds (two_worlds (two_worlds (two_worlds (two_worlds (two_worlds (two_worlds (two_worlds hb3.out hb4.out) hb5.out) hb6.out) hb7.out) hb8.out) hb9.out) hb10.out) hb11.out) hb12.out) hb13.out) hb14.out) hb15.out) hb16.out) hb17.out))).2 1 _ rfl, ((PB1.out.below (two_worlds (two_worlds (two_worlds (two_worlds (two_worlds (two_worlds (two_worlds (two_worlds (two_worlds (two_worlds (two_worlds (two_worlds (two_worlds (two_worlds hb3.out hb4.out) hb5.out) hb6.out) hb7.out) hb8.out) hb9.out) hb10.out) hb11.out) hb12.out) hb13.out) hb14.out) hb15.out) hb16.out) hb17.out))).2 2 _ rfl⟩ | exact ⟨((XB1.out.below (two_worlds (two_worlds (two_worlds (two_worlds (two_worlds hb13.out hb14.out) hb15.out) hb16.out) hb17.out) hb18.out))).2 0 _ rfl, ((XB1.out.below (two_worlds (two_worlds (two_worlds (two_worlds (two_worlds hb13.out hb14.out) hb15.out) hb16.out) hb17.out) hb18.out))).2 1 _ rfl, ((XB1.out.below (two_worlds (two_worlds (two_worlds (two_worlds (two_worlds hb13.out hb14.out) hb15.out) hb16.out) hb17.out) hb18.out))).2 2 _ rfl, ((PB1.out.below (two_worlds (two_worlds (two_worlds (two_worlds (two_worlds (two_worlds (two_worlds (two_worlds (two_worlds (two_worlds (two_worlds (two_worlds (two_worlds (two_worlds (two_worlds hb3.out hb4.out) hb5.out) hb6.out) hb7.out) hb8.out) hb9.out) hb10.out) hb11.out) hb12.out) hb13.out) hb14.out) hb15.out) hb16.out) hb17.out) hb18.out))).2 0 _ rfl, ((PB1.out.below (two_worlds (two_worlds (two_worlds (two_worlds (two_worlds (two_worlds (two_worlds (two_worlds (two_worlds (two_worlds (two_worlds (two_worlds (two_worlds (two_worlds (two_worlds hb3.out hb4.out) hb5.out) hb6.out) hb7.out) hb8.out) hb9.out) hb10.out) hb11.out) hb12.out) hb13.out) hb14.out) hb15.out) hb16.out) hb17.out) hb18.out))).2 1 _ rfl, ((PB1.out.below (two_worlds (two_worlds (two_worlds (two_worlds (two_worlds (two_worlds (two_worlds (two_worlds (two_worlds (two_worlds (two_worlds (two_worlds (two_worlds (two_worlds (two_worlds hb3.out hb4.out) hb5.out) hb6.out) hb7.out) hb8.out) hb9.out) hb10.out) hb11.out) hb12.out) hb13.out) hb14.out) hb15.out) hb16.out) hb17.out) hb18.out))).2 2 _ rfl⟩ | exact ⟨((XB1.out.below (two_worlds (two_worlds (two_worlds (two_worlds (two_worlds (two_worlds hb13.out hb14.out) hb15.out) hb16.out) hb17.out) hb18.out) hb19.out))).2 0 _ rfl, ((XB1.out.below (two_worlds (two_worlds (two_worlds (two_worlds (two_worlds (two_worlds hb13.out hb14.out) hb15.out) hb16.out) hb17.out) hb18.out) hb19.out))).2 1 _ rfl, ((XB1.out.below (two_worlds (two_worlds (two_worlds (two_worlds (two_worlds (two_worlds hb13.out hb14.out) hb15.out) hb16.out) hb17.out) hb18.out) hb19.out))).2 2 _ rfl, ((PB1.out.below (two_worlds (two_worlds (two_worlds (two_worlds (two_worlds (two_worlds (two_worlds (two_worlds (two_worlds (two_worlds (two_worlds (two_worlds (two_worlds (two_worlds (two_worlds (two_worlds hb3.out hb4.out) hb5.out) hb6.out) hb7.out) hb8.out) hb9.out) hb10.out) hb11.out) hb12.out) hb13.out) hb14.out) hb15.out) hb16.out) hb17.out) hb18.out) hb19.out))).2 0 _ rfl, ((PB1.out.below (two_worlds (two_worlds (two_worlds (two_worlds (two_worlds (two_worlds (two_worlds (two_worlds (two_worlds (two_worlds (two_worlds (two_worlds (two_worlds (two_worlds (two_worlds (two_worlds hb3.out hb4.out) hb5.out) hb6.out) hb7.out) hb8.out) hb9.out) hb10.out) hb11.out) hb12.out) hb13.out) hb14.out) hb15.out) hb16.out) hb17.out) hb18.out) hb19.out))).2 1 _ rfl, ((PB1.out.below (two_worlds (two_worlds (two_worlds (two_worlds (two_worlds (two_worlds (two_worlds (two_worlds (two_worlds (two_worlds (two_worlds (two_worlds (two_worlds (two_worlds (two_worlds (two_worlds hb3.out hb4.out) hb5.out) hb6.out) hb7.out) hb8.out) hb9.out) hb10.out) hb11.out) hb12.out) hb13.out) hb14.out) hb15.out) hb16.out) hb17.out) hb18.out) hb19.out))).2 2 _ rfl⟩)
    (first | (go_at_call_of 36 a1; refine (toZoned_any _ _ t1 _ _ _ _ _ hn1 (HA1.out _ BB.out) hs1 hy1 (HC1.out _ BB.out) ht1).mono ?_; rintro e w18 ⟨g1y1, q1y1, rfl, hbx, ho⟩; have hb18 := Lib.hid hbx; replace BB := Lib.hid (Below.trans BB.out (Hid.out hb18 |>.mono BB.out.size)); clear hbx; have O1y1 := Lib.hid ho; clear ho) | (go_at_call 38; refine (eqZoned_any _ _ _ _ t1 t1 _ _ _ _ _ _ _ _ _ hn1 hn1 hy1 hy1 ((O1x.out.below (two_worlds (two_worlds (two_worlds (two_worlds (two_worlds (two_worlds hb12.out hb13.out) hb14.out) hb15.out) hb16.out) hb17.out) hb18.out)).rdI hn1) (O1y1.out.rdI hn1) ((O1x.out.below (two_worlds (two_worlds (two_worlds (two_worlds (two_worlds (two_worlds hb12.out hb13.out) hb14.out) hb15.out) hb16.out) hb17.out) hb18.out)).rdC hy1) (O1y1.out.rdC hy1) HM1.out HN1.out).mono ?_; rintro e w19 ⟨rfl, hbx⟩; rw [beqT t1]; have hb19 := Lib.hid hbx; replace BB := Lib.hid (Below.trans BB.out (Hid.out hb19 |>.mono BB.out.size)); clear hbx))
  go_wp2
  go_ret
  exact ⟨rfl, BB.out⟩
end Go.Proofs.Ytfejgckimlgopaa.fnExactSameZoned
