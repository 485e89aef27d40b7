/-
  The walk of the law FnExactWaysFit: it returns true at every input.
-/
import Derived.Test.YtenjigifjkfiaaaFitSpec
import Derived.Test.YtenjigifjkfiaaaFitImpl
import Derived.Test.YtenjigifjkfiaaaLawRow
import Derived.Test.YtenjigifjkfiaaaNetTo
import Derived.Test.YtenjigifjkfiaaaNetEq
namespace Go.Proofs.Ytenjigifjkfiaaa.fnExactWaysFit
open Go.RowKit
theorem spec_at (s : Int) (a aw : Option Addr) (ts : List T3) (L : List TInt64S) (n ca k : Nat) (w : World) (hn : Hid (ts.length = n)) (ha : RT w a ts) (hmax : n ≤ 1048576) (hk : Hid (L.length = k)) (hk1 : k ≤ 1048576) (hw : RN 1048576 1 cInt64S w aw L) :
    Calls Try.prog 35 #[.agg #[.int .i64 s, .slice a n ca], .slice aw k k] w fun e w' => e = .returned (.tuple #[.bool (fitOf s ts (L.map (·.1))).1, .int .i64 (fitOf s ts (L.map (·.1))).2]) ∧ Below w.heap.size w w' := by
  obtain ⟨ws, hm, hr⟩ := ways_of hw
  rw [← hm]
  exact specWaysFit_any s a aw ts ws n ca k k w hn ha hmax (by have := congrArg List.length hm; rw [List.length_map, List.length_map, hk.out] at this; exact this) hk1 hr
theorem impl_at (s : Int) (a aw : Option Addr) (ts : List T3) (L : List TInt64S) (n ca k : Nat) (w : World) (hn : Hid (ts.length = n)) (ha : RT w a ts) (hmax : n ≤ 1048576) (hk : Hid (L.length = k)) (hk1 : k ≤ 1048576) (hw : RN 1048576 1 cInt64S w aw L) :
    Calls Try.prog 37 #[.agg #[.int .i64 s, .slice a n ca], .slice aw k k] w fun e w' => e = .returned (.tuple #[.bool (fitOf s ts (L.map (·.1))).1, .int .i64 (fitOf s ts (L.map (·.1))).2]) ∧ Below w.heap.size w w' := by
  obtain ⟨ws, hm, hr⟩ := ways_of hw
  rw [← hm]
  exact implWaysFit_any s a aw ts ws n ca k w hn ha hmax (by have := congrArg List.length hm; rw [List.length_map, List.length_map, hk.out] at this; exact this) hk1 hr
set_option maxRecDepth 20000 in
set_option maxHeartbeats 8000000 in
theorem walk {w : World} (v : Value) (x : Int × List T3) (hx : NetIn w v x) (v0 : Value) (l0 : List TInt64S) (hw0 : Int64SsIn w v0 l0) :
    Calls Try.prog 7 #[v, v0] w fun e w' => e = .returned (.bool true) ∧ Below w.heap.size w w' := by
  obtain ⟨s, ts⟩ := x
  obtain ⟨a, n, ca, rfl, hn, hmax, ha, _, _⟩ := hx
  obtain ⟨b0, m0, c0, rfl, hm0, hmax0, hb0, _⟩ := hw0
  simp only at ha hn
  have HM := Lib.hid hmax
  have HM0 := Lib.hid hmax0
  have HA : Hid (∀ w', Below w.heap.size w w' → RT w' a ts) := fun w' h => ha.below h
  have HB0 : Hid (∀ w', Below w.heap.size w w' → RN maxLen 1 cInt64S w' b0 l0) := fun w' h => hb0.below h
  clear ha hb0
  unfold maxLen at hmax hmax0
  go_enter Try.func7, Try.ntmps7
  go_wp2_with fail
  refine (szNet_any _ _ _ _ _ _ (by omega) (by omega) HM.out).mono ?_
  rintro e w1 ⟨rfl, hb1⟩
  have P1 := Lib.hid (BoxN.below (pb := w.heap.size) (s := s) (v := .slice a n ca) ⟨by simp [go_sem], by simp [go_sem]⟩ hb1)
  have B1 := Lib.hid (Below.trans (show Below w.heap.size w (w.alloc (.cells #[.int .i64 s, .slice a n ca] 46)) from (by repeat (first | exact Below.refl _ _ | refine Below.alloc ?_ (by simp; try omega) _ | refine Below.setCell ?_ (by simp; try omega) _))) (hb1.mono (by simp)))
  clear hb1
  have hbd := leftOf_bounds 1048576 n (by omega)
  generalize hL : leftOf 1048576 n = LN at hbd ⊢
  clear hL
  by_cases hneg : LN < 0
  · clear hbd
    go_wp2
    go_ret
    exact ⟨rfl, B1.out⟩
  obtain ⟨_, hle, hall⟩ := hbd
  have hn' : n ≤ 1048576 := by have := hall (by omega); omega
  have hge : 0 ≤ LN := by omega
  clear hneg hall
  go_wp2_with fail
  refine (szInt64SS_any _ l0 _ _ LN _ hm0 (HB0.out _ B1.out) (by omega) (by omega) HM0.out).mono ?_
  rintro e w1b ⟨rfl, hb1b⟩
  have P1b := Lib.hid (P1.out.below hb1b)
  have B1b := Lib.hid (two_worldsC B1.out hb1b)
  clear hb1b P1 B1
  have hbd := szN_bounds LN l0 (by omega)
  generalize hL : szN LN l0 = LL at hbd ⊢
  clear hL
  by_cases hneg : LL < 0
  · clear hbd
    go_wp2
    go_ret
    exact ⟨rfl, B1b.out⟩
  obtain ⟨_, hle0, hall⟩ := hbd
  have hm0' : m0 ≤ 1048576 := by have := (hall (by omega)).1; rw [hm0.out] at this; omega
  have HI0 : Hid (∀ i (h : i < l0.length), l0[i].1.length ≤ 1048576) := fun i h => by have := (hall (by omega)).2 i h; omega
  have HR0 : Hid (∀ w', Below w.heap.size w w' → RN 1048576 1 cInt64S w' b0 l0) := fun w' h => (HB0.out w' h).cut HI0.out
  have hge0 : 0 ≤ LL := by omega
  clear hneg hall
  obtain ⟨p0, p1⟩ := P1b.out
  go_wp2_with fail
  refine (toNet_any _ _ ts _ _ _ hn (HA.out _ B1b.out) hn').mono ?_
  rintro e w2 ⟨g2, rfl, hg2, hb2, ho2⟩
  have R2 := Lib.hid (row_RT hn ho2)
  have P2 := Lib.hid (P1b.out.below hb2)
  have B2 := Lib.hid (two_worldsC B1b.out hb2)
  clear hb2 ho2 hg2 p0 p1 P1b B1b
  go_wp2_with fail
  refine (toInt64SS_any _ l0 _ _ _ hm0 (HR0.out _ B2.out) hm0').mono ?_
  rintro e w3 ⟨g3, rfl, hg3, hb3, ho3⟩
  have R3 := Lib.hid (R2.out.below hb3)
  have I0_3 := Lib.hid (ho3.rd cInt64S_len hm0 HI0.out)
  have P3 := Lib.hid (P2.out.below hb3)
  have B3 := Lib.hid (two_worldsC B2.out hb3)
  clear hb3 ho3 hg3 P2 B2 R2
  go_wp2_with fail
  refine (spec_at s _ _ ts l0 _ _ _ _ hn R3.out hn' hm0 hm0' I0_3.out).mono ?_
  rintro e w4 ⟨rfl, hb4⟩
  generalize hres : fitOf s ts (l0.map (·.1)) = res
  have RES := Lib.hid hres
  clear hres
  have P4 := Lib.hid (P3.out.below hb4)
  have B4 := Lib.hid (two_worldsC B3.out hb4)
  clear hb4 P3 B3 R3 I0_3
  obtain ⟨p0, p1⟩ := P4.out
  go_wp2_with fail
  refine (toNet_any _ _ ts _ _ _ hn (HA.out _ B4.out) hn').mono ?_
  rintro e w5 ⟨g5, rfl, hg5, hb5, ho5⟩
  have E5 : Below w4.heap.size w4 (w5.alloc (.cells #[.int .i64 s, .slice (some ⟨g5, 0, none⟩) n n] 26)) := hb5.alloc hb5.size _
  have XO5 := Lib.hid ((Row.of ho5).below ((Below.refl _ _).alloc (Nat.le_refl _) (.cells #[.int .i64 s, .slice (some ⟨g5, 0, none⟩) n n] 26)))
  have X5 : Hid (BoxN (w5.alloc (.cells #[.int .i64 s, .slice (some ⟨g5, 0, none⟩) n n] 26)) w5.heap.size s (.slice (some ⟨g5, 0, none⟩) n n)) := ⟨by simp [go_sem], by simp [go_sem]⟩
  have P5 := Lib.hid (P4.out.below E5)
  have B5 := Lib.hid (two_worldsC B4.out E5)
  clear E5 hb5 ho5 hg5 p0 p1 P4 B4
  go_wp2_with fail
  refine (toInt64SS_any _ l0 _ _ _ hm0 (HR0.out _ B5.out) hm0').mono ?_
  rintro e w6 ⟨g6, rfl, hg6, hb6, ho6⟩
  have Y0_6 := Lib.hid ho6
  have P6 := Lib.hid (P5.out.below hb6)
  have X6 := Lib.hid (X5.out.below hb6)
  have XO6 := Lib.hid (XO5.out.below hb6)
  have B6 := Lib.hid (two_worldsC B5.out hb6)
  clear hb6 ho6 hg6 P5 X5 XO5 B5
  have R6 := Lib.hid (row_RT hn XO6.out.1)
  have I0_6 := Lib.hid (Y0_6.out.rd cInt64S_len hm0 HI0.out)
  obtain ⟨x0, x1⟩ := X6.out
  go_wp2_with fail
  refine (impl_at s _ _ ts l0 _ _ _ _ hn R6.out hn' hm0 hm0' I0_6.out).mono ?_
  rintro e w7 ⟨rfl, hb7⟩
  rw [RES.out]
  have P7 := Lib.hid (P6.out.below hb7)
  have X7 := Lib.hid (X6.out.below hb7)
  have XO7 := Lib.hid (XO6.out.below hb7)
  have Y0_7 := Lib.hid (Y0_6.out.below hb7)
  have B7 := Lib.hid (two_worldsC B6.out hb7)
  clear x0 x1 hb7 P6 X6 XO6 Y0_6 B6 R6 I0_6 
  have R7 := Lib.hid (row_RT hn XO7.out.1)
  obtain ⟨x0, x1⟩ := X7.out
  obtain ⟨p0, p1⟩ := P7.out
  go_wp2_with fail
  go_region_held3 (fun w' => w'.cell? ⟨w.heap.size, 0, none⟩ = some (.int .i64 s) ∧ w'.cell? ⟨w.heap.size, 1, none⟩ = some (.slice a n ca) ∧ w'.cell? ⟨w5.heap.size, 0, none⟩ = some (.int .i64 s) ∧ w'.cell? ⟨w5.heap.size, 1, none⟩ = some (.slice (some ⟨g5, 0, none⟩) n n))
    (first | exact ⟨p0, p1, x0, x1⟩ | exact two_boxes (w := w7.drew) ⟨p0, p1⟩ ⟨x0, x1⟩ hb8 | exact two_boxes (w := w7.drew) ⟨p0, p1⟩ ⟨x0, x1⟩ (two_worlds hb8 hb9))
    (first | (go_at_call 24; refine (toNet_any _ _ ts _ _ _ hn (HA.out _ B7.out.drew) hn').mono ?_; rintro e w8 ⟨g8, rfl, hg8, hb8, ho8⟩) | (go_at_call 27; refine (eqNet_any s s _ _ ts ts _ _ _ _ _ hn hn ((R7.out.below (Below.refl _ _).drew).below hb8) (row_RT hn ho8) HM.out).mono ?_; rintro e w9 ⟨rfl, hb9⟩))
  have E9 : Below w7.heap.size w7 w9 := (Below.refl _ _).drew.trans (two_worlds hb8 hb9)
  have Y0_9 := Lib.hid (Y0_7.out.below E9)
  have B9 := Lib.hid (two_worldsC B7.out E9)
  clear E9 hb8 hb9 ho8 hg8 x0 x1 p0 p1 R7 P7 X7 XO7 Y0_7 B7
  go_wp2_with fail
  refine (toInt64SS_any _ l0 _ _ _ hm0 (HR0.out _ B9.out) hm0').mono ?_
  rintro e w10 ⟨g10, rfl, hg10, hb10, ho10⟩
  have Z10 := Lib.hid (ho10.rd (M := 1048576) cInt64S_len hm0 HI0.out)
  have B10 := Lib.hid (two_worldsC B9.out hb10)
  have V10 := Lib.hid ((Y0_9.out.below hb10).rd (M := 1048576) cInt64S_len hm0 HI0.out)
  clear hb10 ho10 hg10 Y0_9 B9
  go_wp2_with fail
  refine (eqInt64SS_any 1048576 (by unfold maxLen; omega) _ _ l0 l0 _ _ _ _ _ hm0 hm0 V10.out Z10.out HM0.out).mono ?_
  rintro e w11 ⟨rfl, hb11⟩
  rw [show (l0 == l0) = true from beq_self_eq_true l0]
  have B11 := Lib.hid (two_worldsC B10.out hb11)
  clear hb11 B10 V10 Z10
  go_wp2
  go_ret
  exact ⟨rfl, B11.out⟩
end Go.Proofs.Ytenjigifjkfiaaa.fnExactWaysFit
