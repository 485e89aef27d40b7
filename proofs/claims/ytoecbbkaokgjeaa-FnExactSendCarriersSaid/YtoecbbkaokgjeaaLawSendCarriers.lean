/-
  The walk of the law FnExactSendCarriers: it returns true at every input.
-/
import Derived.Test.YtoecbbkaokgjeaaSendC
import Derived.Test.YtoecbbkaokgjeaaMarksI
import Derived.Test.YtoecbbkaokgjeaaNums
namespace Go.Proofs.Ytoecbbkaokgjeaa.fnExactSendCarriers
open Go.RowKit
set_option maxRecDepth 20000 in
set_option maxHeartbeats 8000000 in
theorem walk {w : World} (v0 : Value) (l0 : List Int) (hw0 : NumsIn w v0 l0) (v1 : Value) (t1 : TMove) (hw1 : MoveIn v1 t1) :
    Calls Try.prog 5 #[v0, v1] w fun e w' => e = .returned (.bool true) ∧ Below w.heap.size w w' := by
  obtain ⟨a0, n0, c0, rfl, hn0, hmax0, hr0, wf0⟩ := hw0
  have WF0 := Lib.hid wf0
  have HA0 : Hid (∀ w', Below w.heap.size w w' → RI w' a0 l0) := fun w' h => hr0.below h
  have HM0 := Lib.hid hmax0
  unfold maxLen at hmax0
  clear hr0 wf0
  obtain ⟨rfl, wf1⟩ := hw1
  have WF1 := Lib.hid wf1
  clear wf1
  have BB : Hid (Below w.heap.size w w) := Below.refl _ _
  have PB1_ := Box.alloc w [.int .i64 t1.1, .int .i64 t1.2.1, .int .i64 t1.2.2] 33
  have hb1 : Hid (Below w.heap.size w (w.alloc (.cells #[.int .i64 t1.1, .int .i64 t1.2.1, .int .i64 t1.2.2] 33))) := (Below.refl _ _).alloc (Nat.le_refl _) _
  replace BB := Lib.hid (Below.trans BB.out (Hid.out hb1 |>.mono BB.out.size))
  have PB1 := Lib.hid PB1_
  clear PB1_
  go_enter Try.func5, Try.ntmps5
  by_cases hbig0 : 1048576 < n0
  · go_wp2
    go_ret
    exact ⟨rfl, BB.out⟩
  have hs0 : n0 ≤ 1048576 := by omega
  clear hbig0
  obtain ⟨r0, r1, hres⟩ : ∃ r0 r1, sendOf l0 t1 = (r0, r1) := ⟨_, _, rfl⟩
  have hlen := sendOf_len l0 t1 (by rw [hn0.out]; exact hs0)
  rw [hres] at hlen
  dsimp only at hlen
  obtain ⟨m, hm⟩ : ∃ m, r0.length = m := ⟨_, rfl⟩
  rw [hm] at hlen
  have HML := Lib.hid hm
  have HMM : Hid (m ≤ maxLen) := by unfold Hid maxLen; omega
  clear hm
  have RES := Lib.hid hres
  clear hres
  have hb2 := Lib.hid (show Below (w.alloc (.cells #[.int .i64 t1.1, .int .i64 t1.2.1, .int .i64 t1.2.2] 33)).heap.size (w.alloc (.cells #[.int .i64 t1.1, .int .i64 t1.2.1, .int .i64 t1.2.2] 33)) (w.alloc (.cells #[.int .i64 t1.1, .int .i64 t1.2.1, .int .i64 t1.2.2] 33)).drew from (Below.refl _ _).drew)
  replace BB := Lib.hid (Below.trans BB.out (Hid.out hb2 |>.mono BB.out.size))
  go_wp2_with fail
  go_region_held3 (fun w' => w'.cell? ⟨w.heap.size, 0, none⟩ = some (.int .i64 t1.1) ∧ w'.cell? ⟨w.heap.size, 1, none⟩ = some (.int .i64 t1.2.1) ∧ w'.cell? ⟨w.heap.size, 2, none⟩ = some (.int .i64 t1.2.2))
    (first | exact ⟨((PB1.out.below hb2.out)).2 0 _ rfl, ((PB1.out.below hb2.out)).2 1 _ rfl, ((PB1.out.below hb2.out)).2 2 _ rfl⟩ | exact ⟨((PB1.out.below (two_worlds hb2.out hb3.out))).2 0 _ rfl, ((PB1.out.below (two_worlds hb2.out hb3.out))).2 1 _ rfl, ((PB1.out.below (two_worlds hb2.out hb3.out))).2 2 _ rfl⟩ | exact ⟨((PB1.out.below (two_worlds (two_worlds hb2.out hb3.out) hb4.out))).2 0 _ rfl, ((PB1.out.below (two_worlds (two_worlds hb2.out hb3.out) hb4.out))).2 1 _ rfl, ((PB1.out.below (two_worlds (two_worlds hb2.out hb3.out) hb4.out))).2 2 _ rfl⟩ | exact ⟨((PB1.out.below (two_worlds (two_worlds (two_worlds hb2.out hb3.out) hb4.out) hb5.out))).2 0 _ rfl, ((PB1.out.below (two_worlds (two_worlds (two_worlds hb2.out hb3.out) hb4.out) hb5.out))).2 1 _ rfl, ((PB1.out.below (two_worlds (two_worlds (two_worlds hb2.out hb3.out) hb4.out) hb5.out))).2 2 _ rfl⟩)
    (first | (go_at_call 11; refine (toInt64S_any _ l0 _ _ _ hn0 (HA0.out _ BB.out) hs0).mono ?_; rintro e w3 ⟨g0s, rfl, hg, hbx, ho⟩; have hb3 := Lib.hid hbx; replace BB := Lib.hid (Below.trans BB.out (Hid.out hb3 |>.mono BB.out.size)); clear hbx hg; have O0s := Lib.hid (Row.of ho); clear ho) | (go_at_call 20; refine (toMove_any t1 _).mono ?_; rintro e w4 ⟨rfl, hbx⟩; have hb4 := Lib.hid hbx; replace BB := Lib.hid (Below.trans BB.out (Hid.out hb4 |>.mono BB.out.size)); clear hbx) | (go_at_call 19; refine (specSendCarriers_any _ l0 hn0 (rowI_RI hn0 (O0s.out.below hb4.out).1) hs0 WF0 t1 WF1).mono ?_; intro e w5 hgv; rw [RES.out] at hgv; obtain ⟨hbx, vw, rfl, ho⟩ := hgv; dsimp only at ho; obtain ⟨aw, cw, rfl⟩ := own_shape ho.1; rw [HML.out] at ho ⊢; have hb5 := Lib.hid hbx; replace BB := Lib.hid (Below.trans BB.out (Hid.out hb5 |>.mono BB.out.size)); clear hbx; have Vw := Lib.hid ho; clear ho))
  go_wp2_with fail
  refine (toInt64S_any _ l0 _ _ _ hn0 (HA0.out _ BB.out) hs0).mono ?_
  rintro e w6 ⟨g0x, rfl, hg, hbx, ho⟩
  have hb6 := Lib.hid hbx
  replace BB := Lib.hid (Below.trans BB.out (Hid.out hb6 |>.mono BB.out.size))
  clear hbx hg
  have O0x := Lib.hid (Row.of ho)
  clear ho
  have pc1 := ((PB1.out.below (two_worlds (two_worlds (two_worlds (two_worlds hb2.out hb3.out) hb4.out) hb5.out) hb6.out))).2
  have pc1_0 := pc1 0 _ rfl
  have pc1_1 := pc1 1 _ rfl
  have pc1_2 := pc1 2 _ rfl
  clear pc1
  go_wp2_with fail
  refine (toMove_any t1 _).mono ?_
  rintro e w7 ⟨rfl, hbx⟩
  have hb7 := Lib.hid hbx
  replace BB := Lib.hid (Below.trans BB.out (Hid.out hb7 |>.mono BB.out.size))
  clear hbx
  clear pc1_0 pc1_1 pc1_2
  go_wp2_with fail
  refine (implSendCarriers_any _ l0 hn0 (rowI_RI hn0 (O0x.out.below hb7.out).1) hs0 WF0 t1 WF1).mono ?_
  intro e w8 hgv
  rw [RES.out] at hgv
  obtain ⟨hbx, vg, rfl, ho⟩ := hgv
  dsimp only at ho
  obtain ⟨ag, cg, rfl⟩ := own_shape ho.1
  rw [HML.out] at ho ⊢
  have hb8 := Lib.hid hbx
  replace BB := Lib.hid (Below.trans BB.out (Hid.out hb8 |>.mono BB.out.size))
  clear hbx
  have Vg := Lib.hid ho
  clear ho
  go_wp2_with fail
  refine (eqInt64S_any _ _ r0 r0 _ _ _ _ _ HML HML (rowI_RI HML Vg.out.1) (rowI_RI HML (Vw.out.below (two_worlds (two_worlds hb6.out hb7.out) hb8.out)).1) HMM.out).mono ?_
  rintro e w9 ⟨rfl, hbx⟩
  rw [beqT r0]
  have hb9 := Lib.hid hbx
  replace BB := Lib.hid (Below.trans BB.out (Hid.out hb9 |>.mono BB.out.size))
  clear hbx
  go_wp2_with fail
  refine (toInt64S_any _ l0 _ _ _ hn0 (HA0.out _ BB.out) hs0).mono ?_
  rintro e w10 ⟨g0y0, rfl, hg, hbx, ho⟩
  have hb10 := Lib.hid hbx
  replace BB := Lib.hid (Below.trans BB.out (Hid.out hb10 |>.mono BB.out.size))
  clear hbx hg
  have O0y0 := Lib.hid (Row.of ho)
  clear ho
  go_wp2_with fail
  refine (eqInt64S_any _ _ l0 l0 _ _ _ _ _ hn0 hn0 (rowI_RI hn0 (O0x.out.below (two_worlds (two_worlds (two_worlds hb7.out hb8.out) hb9.out) hb10.out)).1) (rowI_RI hn0 O0y0.out.1) HM0.out).mono ?_
  rintro e w11 ⟨rfl, hbx⟩
  rw [beqT l0]
  have hb11 := Lib.hid hbx
  replace BB := Lib.hid (Below.trans BB.out (Hid.out hb11 |>.mono BB.out.size))
  clear hbx
  have hk0 : (0 : Int) ≤ 1 := by omega
  go_wp2_with fail
  refine (markInt64S_any _ _ _ _ _ 1 _ (O0x.out.below (two_worlds (two_worlds (two_worlds (two_worlds hb7.out hb8.out) hb9.out) hb10.out) hb11.out)).1 (by omega) (by omega) (by omega)).mono ?_
  rintro e w12 ⟨rfl, hgr, hom⟩
  have hq := And.intro (Turned.grown hgr (O0x.out.below (two_worlds (two_worlds (two_worlds (two_worlds hb7.out hb8.out) hb9.out) hb10.out) hb11.out)).2) (show Row _ _ _ _ _ _ _ _ from ⟨hom, (O0x.out.below (two_worlds (two_worlds (two_worlds (two_worlds hb7.out hb8.out) hb9.out) hb10.out) hb11.out)).2⟩)
  clear hgr hom
  obtain ⟨hbx, hox⟩ := hq
  have hb12 := Lib.hid hbx
  replace BB := Lib.hid (Below.trans BB.out (Turned.below (Hid.out hb12) ((Nat.le_trans (Nat.le_trans (Nat.le_trans (Nat.le_trans hb1.out.size hb2.out.size) hb3.out.size) hb4.out.size) hb5.out.size)) BB.out.size))
  clear hbx
  clear hox
  go_wp2_with fail
  refine (eqInt64S_any _ _ r0 r0 _ _ _ _ _ HML HML (rowI_RI HML ((Vg.out.below (two_worlds (two_worlds hb9.out hb10.out) hb11.out)).turned hb12.out (.inr (hb7.out.size))).1) (rowI_RI HML ((Vw.out.below (two_worlds (two_worlds (two_worlds (two_worlds (two_worlds hb6.out hb7.out) hb8.out) hb9.out) hb10.out) hb11.out)).turned hb12.out (.inl (Nat.le_refl _))).1) HMM.out).mono ?_
  rintro e w13 ⟨rfl, hbx⟩
  rw [beqT r0]
  have hb13 := Lib.hid hbx
  replace BB := Lib.hid (Below.trans BB.out (Hid.out hb13 |>.mono BB.out.size))
  clear hbx
  go_wp2_with fail
  refine (markInt64S_any _ _ _ _ _ 1 _ (((Vg.out.below (two_worlds (two_worlds hb9.out hb10.out) hb11.out)).turned hb12.out (.inr (hb7.out.size))).below hb13.out).1 (by omega) (by omega) (by omega)).mono ?_
  rintro e w14 ⟨rfl, hgr, hom⟩
  have hq := And.intro (Turned.grown hgr (((Vg.out.below (two_worlds (two_worlds hb9.out hb10.out) hb11.out)).turned hb12.out (.inr (hb7.out.size))).below hb13.out).2) (show Row _ _ _ _ _ _ _ _ from ⟨hom, (((Vg.out.below (two_worlds (two_worlds hb9.out hb10.out) hb11.out)).turned hb12.out (.inr (hb7.out.size))).below hb13.out).2⟩)
  clear hgr hom
  obtain ⟨hbx, hox⟩ := hq
  have hb14 := Lib.hid hbx
  replace BB := Lib.hid (Below.trans BB.out (Turned.below (Hid.out hb14) ((Nat.le_trans (Nat.le_trans (Nat.le_trans (Nat.le_trans (Nat.le_trans (Nat.le_trans hb1.out.size hb2.out.size) hb3.out.size) hb4.out.size) hb5.out.size) hb6.out.size) hb7.out.size)) BB.out.size))
  clear hbx
  have MK := Lib.hid hox
  clear hox
  go_wp2_with fail
  refine (heldInt64S_any _ m _ 1 _ (own_RI (marksI_length 1 m) MK.out.1) (by omega) (by omega) (by omega)).mono ?_
  rintro e w' ⟨rfl, rfl⟩
  have hb15 := Lib.hid (show Below w14.heap.size w14 w14.drew from (Below.refl _ _).drew)
  replace BB := Lib.hid (Below.trans BB.out (Hid.out hb15 |>.mono BB.out.size))
  go_wp2_with fail
  go_region_held3 (fun w' => w'.cell? ⟨w.heap.size, 0, none⟩ = some (.int .i64 t1.1) ∧ w'.cell? ⟨w.heap.size, 1, none⟩ = some (.int .i64 t1.2.1) ∧ w'.cell? ⟨w.heap.size, 2, none⟩ = some (.int .i64 t1.2.2))
    (first | exact ⟨((((((PB1.out.below (two_worlds (two_worlds (two_worlds (two_worlds (two_worlds (two_worlds (two_worlds (two_worlds (two_worlds hb2.out hb3.out) hb4.out) hb5.out) hb6.out) hb7.out) hb8.out) hb9.out) hb10.out) hb11.out)).turned hb12.out (.inl (Nat.lt_of_lt_of_le PB1.out.1 ((Nat.le_trans (Nat.le_trans (Nat.le_trans hb2.out.size hb3.out.size) hb4.out.size) hb5.out.size))))).below hb13.out).turned hb14.out (.inl (Nat.lt_of_lt_of_le PB1.out.1 ((Nat.le_trans (Nat.le_trans (Nat.le_trans (Nat.le_trans (Nat.le_trans hb2.out.size hb3.out.size) hb4.out.size) hb5.out.size) hb6.out.size) hb7.out.size))))).below hb15.out)).2 0 _ rfl, ((((((PB1.out.below (two_worlds (two_worlds (two_worlds (two_worlds (two_worlds (two_worlds (two_worlds (two_worlds (two_worlds hb2.out hb3.out) hb4.out) hb5.out) hb6.out) hb7.out) hb8.out) hb9.out) hb10.out) hb11.out)).turned hb12.out (.inl (Nat.lt_of_lt_of_le PB1.out.1 ((Nat.le_trans (Nat.le_trans (Nat.le_trans hb2.out.size hb3.out.size) hb4.out.size) hb5.out.size))))).below hb13.out).turned hb14.out (.inl (Nat.lt_of_lt_of_le PB1.out.1 ((Nat.le_trans (Nat.le_trans (Nat.le_trans (Nat.le_trans (Nat.le_trans hb2.out.size hb3.out.size) hb4.out.size) hb5.out.size) hb6.out.size) hb7.out.size))))).below hb15.out)).2 1 _ rfl, ((((((PB1.out.below (two_worlds (two_worlds (two_worlds (two_worlds (two_worlds (two_worlds (two_worlds (two_worlds (two_worlds hb2.out hb3.out) hb4.out) hb5.out) hb6.out) hb7.out) hb8.out) hb9.out) hb10.out) hb11.out)).turned hb12.out (.inl (Nat.lt_of_lt_of_le PB1.out.1 ((Nat.le_trans (Nat.le_trans (Nat.le_trans hb2.out.size hb3.out.size) hb4.out.size) hb5.out.size))))).below hb13.out).turned hb14.out (.inl (Nat.lt_of_lt_of_le PB1.out.1 ((Nat.le_trans (Nat.le_trans (Nat.le_trans (Nat.le_trans (Nat.le_trans hb2.out.size hb3.out.size) hb4.out.size) hb5.out.size) hb6.out.size) hb7.out.size))))).below hb15.out)).2 2 _ rfl⟩ | exact ⟨((((((PB1.out.below (two_worlds (two_worlds (two_worlds (two_worlds (two_worlds (two_worlds (two_worlds (two_worlds (two_worlds hb2.out hb3.out) hb4.out) hb5.out) hb6.out) hb7.out) hb8.out) hb9.out) hb10.out) hb11.out)).turned hb12.out (.inl (Nat.lt_of_lt_of_le PB1.out.1 ((Nat.le_trans (Nat.le_trans (Nat.le_trans hb2.out.size hb3.out.size) hb4.out.size) hb5.out.size))))).below hb13.out).turned hb14.out (.inl (Nat.lt_of_lt_of_le PB1.out.1 ((Nat.le_trans (Nat.le_trans (Nat.le_trans (Nat.le_trans (Nat.le_trans hb2.out.size hb3.out.size) hb4.out.size) hb5.out.size) hb6.out.size) hb7.out.size))))).below (two_worlds hb15.out hb16.out))).2 0 _ rfl, ((((((PB1.out.below (two_worlds (two_worlds (two_worlds (two_worlds (two_worlds (two_worlds (two_worlds (two_worlds (two_worlds hb2.out hb3.out) hb4.out) hb5.out) hb6.out) hb7.out) hb8.out) hb9.out) hb10.out) hb11.out)).turned hb12.out (.inl (Nat.lt_of_lt_of_le PB1.out.1 ((Nat.le_trans (Nat.le_trans (Nat.le_trans hb2.out.size hb3.out.size) hb4.out.size) hb5.out.size))))).below hb13.out).turned hb14.out (.inl (Nat.lt_of_lt_of_le PB1.out.1 ((Nat.le_trans (Nat.le_trans (Nat.le_trans (Nat.le_trans (Nat.le_trans hb2.out.size hb3.out.size) hb4.out.size) hb5.out.size) hb6.out.size) hb7.out.size))))).below (two_worlds hb15.out hb16.out))).2 1 _ rfl, ((((((PB1.out.below (two_worlds (two_worlds (two_worlds (two_worlds (two_worlds (two_worlds (two_worlds (two_worlds (two_worlds hb2.out hb3.out) hb4.out) hb5.out) hb6.out) hb7.out) hb8.out) hb9.out) hb10.out) hb11.out)).turned hb12.out (.inl (Nat.lt_of_lt_of_le PB1.out.1 ((Nat.le_trans (Nat.le_trans (Nat.le_trans hb2.out.size hb3.out.size) hb4.out.size) hb5.out.size))))).below hb13.out).turned hb14.out (.inl (Nat.lt_of_lt_of_le PB1.out.1 ((Nat.le_trans (Nat.le_trans (Nat.le_trans (Nat.le_trans (Nat.le_trans hb2.out.size hb3.out.size) hb4.out.size) hb5.out.size) hb6.out.size) hb7.out.size))))).below (two_worlds hb15.out hb16.out))).2 2 _ rfl⟩ | exact ⟨((((((PB1.out.below (two_worlds (two_worlds (two_worlds (two_worlds (two_worlds (two_worlds (two_worlds (two_worlds (two_worlds hb2.out hb3.out) hb4.out) hb5.out) hb6.out) hb7.out) hb8.out) hb9.out) hb10.out) hb11.out)).turned hb12.out (.inl (Nat.lt_of_lt_of_le PB1.out.1 ((Nat.le_trans (Nat.le_trans (Nat.le_trans hb2.out.size hb3.out.size) hb4.out.size) hb5.out.size))))).below hb13.out).turned hb14.out (.inl (Nat.lt_of_lt_of_le PB1.out.1 ((Nat.le_trans (Nat.le_trans (Nat.le_trans (Nat.le_trans (Nat.le_trans hb2.out.size hb3.out.size) hb4.out.size) hb5.out.size) hb6.out.size) hb7.out.size))))).below (two_worlds (two_worlds hb15.out hb16.out) hb17.out))).2 0 _ rfl, ((((((PB1.out.below (two_worlds (two_worlds (two_worlds (two_worlds (two_worlds (two_worlds (two_worlds (two_worlds (two_worlds hb2.out hb3.out) hb4.out) hb5.out) hb6.out) hb7.out) hb8.out) hb9.out) hb10.out) hb11.out)).turned hb12.out (.inl (Nat.lt_of_lt_of_le PB1.out.1 ((Nat.le_trans (Nat.le_trans (Nat.le_trans hb2.out.size hb3.out.size) hb4.out.size) hb5.out.size))))).below hb13.out).turned hb14.out (.inl (Nat.lt_of_lt_of_le PB1.out.1 ((Nat.le_trans (Nat.le_trans (Nat.le_trans (Nat.le_trans (Nat.le_trans hb2.out.size hb3.out.size) hb4.out.size) hb5.out.size) hb6.out.size) hb7.out.size))))).below (two_worlds (two_worlds hb15.out hb16.out) hb17.out))).2 1 _ rfl, ((((((PB1.out.below (two_worlds (two_worlds (two_worlds (two_worlds (two_worlds (two_worlds (two_worlds (two_worlds (two_worlds hb2.out hb3.out) hb4.out) hb5.out) hb6.out) hb7.out) hb8.out) hb9.out) hb10.out) hb11.out)).turned hb12.out (.inl (Nat.lt_of_lt_of_le PB1.out.1 ((Nat.le_trans (Nat.le_trans (Nat.le_trans hb2.out.size hb3.out.size) hb4.out.size) hb5.out.size))))).below hb13.out).turned hb14.out (.inl (Nat.lt_of_lt_of_le PB1.out.1 ((Nat.le_trans (Nat.le_trans (Nat.le_trans (Nat.le_trans (Nat.le_trans hb2.out.size hb3.out.size) hb4.out.size) hb5.out.size) hb6.out.size) hb7.out.size))))).below (two_worlds (two_worlds hb15.out hb16.out) hb17.out))).2 2 _ rfl⟩ | exact ⟨((((((PB1.out.below (two_worlds (two_worlds (two_worlds (two_worlds (two_worlds (two_worlds (two_worlds (two_worlds (two_worlds hb2.out hb3.out) hb4.out) hb5.out) hb6.out) hb7.out) hb8.out) hb9.out) hb10.out) hb11.out)).turned hb12.out (.inl (Nat.lt_of_lt_of_le PB1.out.1 ((Nat.le_trans (Nat.le_trans (Nat.le_trans hb2.out.size hb3.out.size) hb4.out.size) hb5.out.size))))).below hb13.out).turned hb14.out (.inl (Nat.lt_of_lt_of_le PB1.out.1 ((Nat.le_trans (Nat.le_trans (Nat.le_trans (Nat.le_trans (Nat.le_trans hb2.out.size hb3.out.size) hb4.out.size) hb5.out.size) hb6.out.size) hb7.out.size))))).below (two_worlds (two_worlds (two_worlds hb15.out hb16.out) hb17.out) hb18.out))).2 0 _ rfl, ((((((PB1.out.below (two_worlds (two_worlds (two_worlds (two_worlds (two_worlds (two_worlds (two_worlds (two_worlds (two_worlds hb2.out hb3.out) hb4.out) hb5.out) hb6.out) hb7.out) hb8.out) hb9.out) hb10.out) hb11.out)).turned hb12.out (.inl (Nat.lt_of_lt_of_le PB1.out.1 ((Nat.le_trans (Nat.le_trans (Nat.le_trans hb2.out.size hb3.out.size) hb4.out.size) hb5.out.size))))).below hb13.out).turned hb14.out (.inl (Nat.lt_of_lt_of_le PB1.out.1 ((Nat.le_trans (Nat.le_trans (Nat.le_trans (Nat.le_trans (Nat.le_trans hb2.out.size hb3.out.size) hb4.out.size) hb5.out.size) hb6.out.size) hb7.out.size))))).below (two_worlds (two_worlds (two_worlds hb15.out hb16.out) hb17.out) hb18.out))).2 1 _ rfl, ((((((PB1.out.below (two_worlds (two_worlds (two_worlds (two_worlds (two_worlds (two_worlds (two_worlds (two_worlds (two_worlds hb2.out hb3.out) hb4.out) hb5.out) hb6.out) hb7.out) hb8.out) hb9.out) hb10.out) hb11.out)).turned hb12.out (.inl (Nat.lt_of_lt_of_le PB1.out.1 ((Nat.le_trans (Nat.le_trans (Nat.le_trans hb2.out.size hb3.out.size) hb4.out.size) hb5.out.size))))).below hb13.out).turned hb14.out (.inl (Nat.lt_of_lt_of_le PB1.out.1 ((Nat.le_trans (Nat.le_trans (Nat.le_trans (Nat.le_trans (Nat.le_trans hb2.out.size hb3.out.size) hb4.out.size) hb5.out.size) hb6.out.size) hb7.out.size))))).below (two_worlds (two_worlds (two_worlds hb15.out hb16.out) hb17.out) hb18.out))).2 2 _ rfl⟩)
    (first | (go_at_call 11; refine (toInt64S_any _ l0 _ _ _ hn0 (HA0.out _ BB.out) hs0).mono ?_; rintro e w16 ⟨g0h, rfl, hg, hbx, ho⟩; have hb16 := Lib.hid hbx; replace BB := Lib.hid (Below.trans BB.out (Hid.out hb16 |>.mono BB.out.size)); clear hbx hg; have O0h := Lib.hid (Row.of ho); clear ho) | (go_at_call 20; refine (toMove_any t1 _).mono ?_; rintro e w17 ⟨rfl, hbx⟩; have hb17 := Lib.hid hbx; replace BB := Lib.hid (Below.trans BB.out (Hid.out hb17 |>.mono BB.out.size)); clear hbx) | (go_at_call 21; refine (implSendCarriers_any _ l0 hn0 (rowI_RI hn0 (O0h.out.below hb17.out).1) hs0 WF0 t1 WF1).mono ?_; intro e w18 hgv; rw [RES.out] at hgv; obtain ⟨hbx, vh, rfl, ho⟩ := hgv; dsimp only at ho; obtain ⟨ah, ch, rfl⟩ := own_shape ho.1; rw [HML.out] at ho ⊢; have hb18 := Lib.hid hbx; replace BB := Lib.hid (Below.trans BB.out (Hid.out hb18 |>.mono BB.out.size)); clear hbx; have Vh := Lib.hid ho; clear ho))
  go_wp2_with fail
  refine (eqInt64S_any _ _ r0 r0 _ _ _ _ _ HML HML (rowI_RI HML Vh.out.1) (rowI_RI HML (((((Vw.out.below (two_worlds (two_worlds (two_worlds (two_worlds (two_worlds hb6.out hb7.out) hb8.out) hb9.out) hb10.out) hb11.out)).turned hb12.out (.inl (Nat.le_refl _))).below hb13.out).turned hb14.out (.inl ((Nat.le_trans hb6.out.size hb7.out.size)))).below (two_worlds (two_worlds (two_worlds hb15.out hb16.out) hb17.out) hb18.out)).1) HMM.out).mono ?_
  rintro e w19 ⟨rfl, hbx⟩
  rw [beqT r0]
  have hb19 := Lib.hid hbx
  replace BB := Lib.hid (Below.trans BB.out (Hid.out hb19 |>.mono BB.out.size))
  clear hbx
  go_wp2_with fail
  refine (heldInt64S_any _ m _ 1 _ (own_RI (marksI_length 1 m) (MK.out.below (two_worlds (two_worlds (two_worlds (two_worlds hb15.out hb16.out) hb17.out) hb18.out) hb19.out)).1) (by omega) (by omega) (by omega)).mono ?_
  rintro e w' ⟨rfl, rfl⟩
  go_wp2
  go_ret
  exact ⟨rfl, BB.out⟩
end Go.Proofs.Ytoecbbkaokgjeaa.fnExactSendCarriers
