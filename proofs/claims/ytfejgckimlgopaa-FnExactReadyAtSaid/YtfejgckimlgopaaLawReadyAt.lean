/-
  The walk of the law FnExactReadyAt: it returns true at every input.
-/
import Derived.Test.YtfejgckimlgopaaReadyZ
import Derived.Test.YtfejgckimlgopaaZoned
import Derived.Test.YtfejgckimlgopaaIntList
namespace Go.Proofs.Ytfejgckimlgopaa.fnExactReadyAt
open Go.RowKit
set_option maxRecDepth 20000 in
set_option maxHeartbeats 8000000 in
theorem walk {w : World} (v0 : Value) (t0 : TZoned) (hw0 : ZonedIn w v0 t0) (v1 : Value) (l1 : List Int) (hw1 : NumsIn w v1 l1) (f2 : Int) (wf2 : (Lit.int .i64 f2).wf = true) :
    Calls Try.prog 14 #[v0, v1, .int .i64 f2] w fun e w' => e = .returned (.bool true) ∧ Below w.heap.size w w' := by
  obtain ⟨a0, n0, c0, b0, m0, d0, rfl, hn0, hmax0, hr0, hy0, hmay0, hq0, wf0⟩ := hw0
  have WF0 := Lib.hid wf0
  have HA0 : Hid (∀ w', Below w.heap.size w w' → RI w' a0 t0.2.1) := fun w' h => hr0.below h
  have HC0 : Hid (∀ w', Below w.heap.size w w' → RR 3 cChange w' b0 t0.2.2) := fun w' h => hq0.below h
  have HM0 := Lib.hid hmax0
  have HN0 := Lib.hid hmay0
  unfold maxLen at hmax0 hmay0
  clear hr0 hq0 wf0
  obtain ⟨a1, n1, c1, rfl, hn1, hmax1, hr1, wf1⟩ := hw1
  have WF1 := Lib.hid wf1
  have HA1 : Hid (∀ w', Below w.heap.size w w' → RI w' a1 l1) := fun w' h => hr1.below h
  have HM1 := Lib.hid hmax1
  unfold maxLen at hmax1
  clear hr1 wf1
  have BB : Hid (Below w.heap.size w w) := Below.refl _ _
  have PB0_ := Box.alloc w [.int .i64 t0.1, .slice a0 n0 c0, .slice b0 m0 d0] 47
  have hb1 : Hid (Below w.heap.size w (w.alloc (.cells #[.int .i64 t0.1, .slice a0 n0 c0, .slice b0 m0 d0] 47))) := (Below.refl _ _).alloc (Nat.le_refl _) _
  replace BB := Lib.hid (Below.trans BB.out (Hid.out hb1 |>.mono BB.out.size))
  have PB0 := Lib.hid PB0_
  clear PB0_
  go_enter Try.func14, Try.ntmps14
  by_cases hbig1 : 1048576 < n1
  · go_wp2
    go_ret
    exact ⟨rfl, BB.out⟩
  have hs1 : n1 ≤ 1048576 := by omega
  clear hbig1
  have pc0 := (PB0.out).2
  have pc0_0 := pc0 0 _ rfl
  have pc0_1 := pc0 1 _ rfl
  have pc0_2 := pc0 2 _ rfl
  clear pc0
  go_wp2_with fail
  refine (szZoned_any _ _ _ _ _ _ _ 1048576 _ (by omega) (by omega) HM0.out HN0.out).mono ?_
  rintro e w2 ⟨rfl, hbx⟩
  have hb2 := Lib.hid hbx
  replace BB := Lib.hid (Below.trans BB.out (Hid.out hb2 |>.mono BB.out.size))
  clear hbx
  clear pc0_0 pc0_1 pc0_2
  have hbd := szZ_bounds 1048576 n0 m0 (by omega)
  generalize hL : szZ 1048576 n0 m0 = L0 at hbd ⊢
  clear hL
  by_cases hneg : L0 < 0
  · clear hbd
    go_wp2
    go_ret
    exact ⟨rfl, BB.out⟩
  obtain ⟨_, hle0, hall⟩ := hbd
  have hs0 : n0 ≤ 1048576 := by have := (hall (by omega)).1; omega
  have ht0 : m0 ≤ 1048576 := by have := (hall (by omega)).2; omega
  have hge0 : 0 ≤ L0 := by omega
  clear hneg hall
  obtain ⟨r0, r1, hres⟩ : ∃ r0 r1, readyR t0 l1 f2 = (r0, r1) := ⟨_, _, rfl⟩
  have RES := Lib.hid hres
  clear hres
  have pc0 := ((PB0.out.below hb2.out)).2
  have pc0_0 := pc0 0 _ rfl
  have pc0_1 := pc0 1 _ rfl
  have pc0_2 := pc0 2 _ rfl
  clear pc0
  go_wp2_with fail
  refine (toZoned_any _ _ t0 _ _ _ _ _ hn0 (HA0.out _ BB.out) hs0 hy0 (HC0.out _ BB.out) ht0).mono ?_
  rintro e w3 ⟨g0s, q0s, rfl, hbx, ho⟩
  have hb3 := Lib.hid hbx
  replace BB := Lib.hid (Below.trans BB.out (Hid.out hb3 |>.mono BB.out.size))
  clear hbx
  clear pc0_0 pc0_1 pc0_2
  have O0s := Lib.hid ho
  clear ho
  go_wp2_with fail
  refine (toInt64S_any _ l1 _ _ _ hn1 (HA1.out _ BB.out) hs1).mono ?_
  rintro e w4 ⟨g1s, rfl, hg, hbx, ho⟩
  have hb4 := Lib.hid hbx
  replace BB := Lib.hid (Below.trans BB.out (Hid.out hb4 |>.mono BB.out.size))
  clear hbx hg
  have O1s := Lib.hid (Row.of ho)
  clear ho
  go_wp2_with fail
  refine (specReadyAt_any _ t0 hn0 ((O0s.out.below hb4.out).rdI hn0) hs0 hy0 ((O0s.out.below hb4.out).rdC hy0) ht0 WF0 l1 hn1 (rowI_RI hn1 O1s.out.1) hs1 WF1 f2 wf2).mono ?_
  rintro e w5 ⟨rfl, hbx⟩
  rw [RES.out]
  dsimp only
  have hb5 := Lib.hid hbx
  replace BB := Lib.hid (Below.trans BB.out (Hid.out hb5 |>.mono BB.out.size))
  clear hbx
  have pc0 := ((PB0.out.below (two_worlds (two_worlds (two_worlds hb2.out hb3.out) hb4.out) hb5.out))).2
  have pc0_0 := pc0 0 _ rfl
  have pc0_1 := pc0 1 _ rfl
  have pc0_2 := pc0 2 _ rfl
  clear pc0
  go_wp2_with fail
  refine (toZoned_any _ _ t0 _ _ _ _ _ hn0 (HA0.out _ BB.out) hs0 hy0 (HC0.out _ BB.out) ht0).mono ?_
  rintro e w6 ⟨g0x, q0x, rfl, hbx, ho⟩
  have hb6 := Lib.hid hbx
  replace BB := Lib.hid (Below.trans BB.out (Hid.out hb6 |>.mono BB.out.size))
  clear hbx
  clear pc0_0 pc0_1 pc0_2
  have O0x := Lib.hid ho
  clear ho
  have XB0 := Lib.hid (Box.alloc w6 [.int .i64 t0.1, .slice (some ⟨g0x, 0, none⟩) n0 n0, .slice (some ⟨q0x, 0, none⟩) m0 m0] 27)
  have hb7 := Lib.hid (show Below w6.heap.size w6 (w6.alloc (.cells #[.int .i64 t0.1, .slice (some ⟨g0x, 0, none⟩) n0 n0, .slice (some ⟨q0x, 0, none⟩) m0 m0] 27)) from (Below.refl _ _).alloc (Nat.le_refl _) _)
  replace BB := Lib.hid (Below.trans BB.out (Hid.out hb7 |>.mono BB.out.size))
  go_wp2_with fail
  refine (toInt64S_any _ l1 _ _ _ hn1 (HA1.out _ BB.out) hs1).mono ?_
  rintro e w8 ⟨g1x, rfl, hg, hbx, ho⟩
  have hb8 := Lib.hid hbx
  replace BB := Lib.hid (Below.trans BB.out (Hid.out hb8 |>.mono BB.out.size))
  clear hbx hg
  have O1x := Lib.hid (Row.of ho)
  clear ho
  have xc0 := ((XB0.out.below hb8.out)).2
  have xc0_0 := xc0 0 _ rfl
  have xc0_1 := xc0 1 _ rfl
  have xc0_2 := xc0 2 _ rfl
  clear xc0
  go_wp2_with fail
  refine (implReadyAt_any _ t0 hn0 ((O0x.out.below (two_worlds hb7.out hb8.out)).rdI hn0) hs0 hy0 ((O0x.out.below (two_worlds hb7.out hb8.out)).rdC hy0) ht0 WF0 l1 hn1 (rowI_RI hn1 O1x.out.1) hs1 WF1 f2 wf2).mono ?_
  rintro e w9 ⟨rfl, hbx⟩
  rw [RES.out]
  dsimp only
  have hb9 := Lib.hid hbx
  replace BB := Lib.hid (Below.trans BB.out (Hid.out hb9 |>.mono BB.out.size))
  clear hbx
  clear xc0_0 xc0_1 xc0_2
  have hb10 := Lib.hid (show Below w9.heap.size w9 w9.drew from (Below.refl _ _).drew)
  replace BB := Lib.hid (Below.trans BB.out (Hid.out hb10 |>.mono BB.out.size))
  go_wp2_with fail
  go_region_held3 (fun w' => w'.cell? ⟨w6.heap.size, 0, none⟩ = some (.int .i64 t0.1) ∧ w'.cell? ⟨w6.heap.size, 1, none⟩ = some (.slice (some ⟨g0x, 0, none⟩) n0 n0) ∧ w'.cell? ⟨w6.heap.size, 2, none⟩ = some (.slice (some ⟨q0x, 0, none⟩) m0 m0) ∧ w'.cell? ⟨w.heap.size, 0, none⟩ = some (.int .i64 t0.1) ∧ w'.cell? ⟨w.heap.size, 1, none⟩ = some (.slice a0 n0 c0) ∧ w'.cell? ⟨w.heap.size, 2, none⟩ = some (.slice b0 m0 d0))
    (first | exact ⟨((XB0.out.below (two_worlds (two_worlds hb8.out hb9.out) hb10.out))).2 0 _ rfl, ((XB0.out.below (two_worlds (two_worlds hb8.out hb9.out) hb10.out))).2 1 _ rfl, ((XB0.out.below (two_worlds (two_worlds hb8.out hb9.out) hb10.out))).2 2 _ rfl, ((PB0.out.below (two_worlds (two_worlds (two_worlds (two_worlds (two_worlds (two_worlds (two_worlds (two_worlds hb2.out hb3.out) hb4.out) hb5.out) hb6.out) hb7.out) hb8.out) hb9.out) hb10.out))).2 0 _ rfl, ((PB0.out.below (two_worlds (two_worlds (two_worlds (two_worlds (two_worlds (two_worlds (two_worlds (two_worlds hb2.out hb3.out) hb4.out) hb5.out) hb6.out) hb7.out) hb8.out) hb9.out) hb10.out))).2 1 _ rfl, ((PB0.out.below (two_worlds (two_worlds (two_worlds (two_worlds (two_worlds (two_worlds (two_worlds (two_worlds hb2.out hb3.out) hb4.out) hb5.out) hb6.out) hb7.out) hb8.out) hb9.out) hb10.out))).2 2 _ rfl⟩ | exact ⟨((XB0.out.below (two_worlds (two_worlds (two_worlds hb8.out hb9.out) hb10.out) hb11.out))).2 0 _ rfl, ((XB0.out.below (two_worlds (two_worlds (two_worlds hb8.out hb9.out) hb10.out) hb11.out))).2 1 _ rfl, ((XB0.out.below (two_worlds (two_worlds (two_worlds hb8.out hb9.out) hb10.out) hb11.out))).2 2 _ rfl, ((PB0.out.below (two_worlds (two_worlds (two_worlds (two_worlds (two_worlds (two_worlds (two_worlds (two_worlds (two_worlds hb2.out hb3.out) hb4.out) hb5.out) hb6.out) hb7.out) hb8.out) hb9.out) hb10.out) hb11.out))).2 0 _ rfl, ((PB0.out.below (two_worlds (two_worlds (two_worlds (two_worlds (two_worlds (two_worlds (two_worlds (two_worlds (two_worlds hb2.out hb3.out) hb4.out) hb5.out) hb6.out) hb7.out) hb8.out) hb9.out) hb10.out) hb11.out))).2 1 _ rfl, ((PB0.out.below (two_worlds (two_worlds (two_worlds (two_worlds (two_worlds (two_worlds (two_worlds (two_worlds (two_worlds hb2.out hb3.out) hb4.out) hb5.out) hb6.out) hb7.out) hb8.out) hb9.out) hb10.out) hb11.out))).2 2 _ rfl⟩ | exact ⟨((XB0.out.below (two_worlds (two_worlds (two_worlds (two_worlds hb8.out hb9.out) hb10.out) hb11.out) hb12.out))).2 0 _ rfl, ((XB0.out.below (two_worlds (two_worlds (two_worlds (two_worlds hb8.out hb9.out) hb10.out) hb11.out) hb12.out))).2 1 _ rfl, ((XB0.out.below (two_worlds (two_worlds (two_worlds (two_worlds hb8.out hb9.out) hb10.out) hb11.out) hb12.out))).2 2 _ rfl, ((PB0.out.below (two_worlds (two_worlds (two_worlds (two_worlds (two_worlds (two_worlds (two_worlds (two_worlds (two_worlds (two_worlds hb2.out hb3.out) hb4.out) hb5.out) hb6.out) hb7.out) hb8.out) hb9.out) hb10.out) hb11.out) hb12.out))).2 0 _ rfl, ((PB0.out.below (two_worlds (two_worlds (two_worlds (two_worlds (two_worlds (two_worlds (two_worlds (two_worlds (two_worlds (two_worlds hb2.out hb3.out) hb4.out) hb5.out) hb6.out) hb7.out) hb8.out) hb9.out) hb10.out) hb11.out) hb12.out))).2 1 _ rfl, ((PB0.out.below (two_worlds (two_worlds (two_worlds (two_worlds (two_worlds (two_worlds (two_worlds (two_worlds (two_worlds (two_worlds hb2.out hb3.out) hb4.out) hb5.out) hb6.out) hb7.out) hb8.out) hb9.out) hb10.out) hb11.out) hb12.out))).2 2 _ rfl⟩)
    (first | (go_at_call 36; refine (toZoned_any _ _ t0 _ _ _ _ _ hn0 (HA0.out _ BB.out) hs0 hy0 (HC0.out _ BB.out) ht0).mono ?_; rintro e w11 ⟨g0y0, q0y0, rfl, hbx, ho⟩; have hb11 := Lib.hid hbx; replace BB := Lib.hid (Below.trans BB.out (Hid.out hb11 |>.mono BB.out.size)); clear hbx; have O0y0 := Lib.hid ho; clear ho) | (go_at_call 38; refine (eqZoned_any _ _ _ _ t0 t0 _ _ _ _ _ _ _ _ _ hn0 hn0 hy0 hy0 ((O0x.out.below (two_worlds (two_worlds (two_worlds (two_worlds hb7.out hb8.out) hb9.out) hb10.out) hb11.out)).rdI hn0) (O0y0.out.rdI hn0) ((O0x.out.below (two_worlds (two_worlds (two_worlds (two_worlds hb7.out hb8.out) hb9.out) hb10.out) hb11.out)).rdC hy0) (O0y0.out.rdC hy0) HM0.out HN0.out).mono ?_; rintro e w12 ⟨rfl, hbx⟩; rw [beqT t0]; have hb12 := Lib.hid hbx; replace BB := Lib.hid (Below.trans BB.out (Hid.out hb12 |>.mono BB.out.size)); clear hbx))
  go_wp2_with fail
  refine (toInt64S_any _ l1 _ _ _ hn1 (HA1.out _ BB.out) hs1).mono ?_
  rintro e w13 ⟨g1y1, rfl, hg, hbx, ho⟩
  have hb13 := Lib.hid hbx
  replace BB := Lib.hid (Below.trans BB.out (Hid.out hb13 |>.mono BB.out.size))
  clear hbx hg
  have O1y1 := Lib.hid (Row.of ho)
  clear ho
  go_wp2_with fail
  refine (eqInt64S_any _ _ l1 l1 _ _ _ _ _ hn1 hn1 (rowI_RI hn1 (O1x.out.below (two_worlds (two_worlds (two_worlds (two_worlds hb9.out hb10.out) hb11.out) hb12.out) hb13.out)).1) (rowI_RI hn1 O1y1.out.1) HM1.out).mono ?_
  rintro e w14 ⟨rfl, hbx⟩
  rw [beqT l1]
  have hb14 := Lib.hid hbx
  replace BB := Lib.hid (Below.trans BB.out (Hid.out hb14 |>.mono BB.out.size))
  clear hbx
  go_wp2
  go_ret
  exact ⟨rfl, BB.out⟩
end Go.Proofs.Ytfejgckimlgopaa.fnExactReadyAt
