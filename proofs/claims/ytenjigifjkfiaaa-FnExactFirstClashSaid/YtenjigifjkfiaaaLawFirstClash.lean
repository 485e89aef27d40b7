/-
  The walk of the law FnExactFirstClash: it returns true at every input.
-/
import Derived.Test.YtenjigifjkfiaaaFirstClash
import Derived.Test.YtenjigifjkfiaaaLawRow
namespace Go.Proofs.Ytenjigifjkfiaaa.fnExactFirstClash
open Go.RowKit
set_option maxHeartbeats 2000000 in
theorem walk {w : World} (v : Value) (x : Int × List T3) (hx : NetIn w v x) (v0 : Value) (l0 : List Int) (hw0 : NumsIn w v0 l0) (v1 : Value) (l1 : List Int) (hw1 : NumsIn w v1 l1) :
    Calls Try.prog 6 #[v, v0, v1] w fun e w' => e = .returned (.bool true) ∧ Below w.heap.size w w' := by
  obtain ⟨s, ts⟩ := x
  obtain ⟨a, n, ca, rfl, hn, hmax, ha, _, _⟩ := hx
  obtain ⟨b0, m0, c0, rfl, hm0, hmax0, hb0, _⟩ := hw0
  obtain ⟨b1, m1, c1, rfl, hm1, hmax1, hb1, _⟩ := hw1
  simp only at ha hn
  have HM := Lib.hid hmax
  have HM0 := Lib.hid hmax0
  have HM1 := Lib.hid hmax1
  have HA : Hid (∀ w', Below w.heap.size w w' → RT w' a ts) := fun w' h => ha.below h
  have HB0 : Hid (∀ w', Below w.heap.size w w' → RI w' b0 l0) := fun w' h => hb0.below h
  have HB1 : Hid (∀ w', Below w.heap.size w w' → RI w' b1 l1) := fun w' h => hb1.below h
  clear ha hb0 hb1
  unfold maxLen at hmax hmax0 hmax1
  by_cases h0 : 1048576 < m0
  · go_enter Try.func6, Try.ntmps6
    go_wp2
    go_ret
    exact ⟨rfl, (by repeat (first | exact Below.refl _ _ | refine Below.alloc ?_ (by simp; try omega) _ | refine Below.setCell ?_ (by simp; try omega) _))⟩
  · have hm0' : m0 ≤ 1048576 := by omega
    by_cases h1 : 1048576 < m1
    · go_enter Try.func6, Try.ntmps6
      go_wp2
      go_ret
      exact ⟨rfl, (by repeat (first | exact Below.refl _ _ | refine Below.alloc ?_ (by simp; try omega) _ | refine Below.setCell ?_ (by simp; try omega) _))⟩
    · have hm1' : m1 ≤ 1048576 := by omega
      by_cases h : 1048576 < n
      · have HL := leftOf_less (left := 1048576) (n := (n : Int)) (by omega)
        go_enter Try.func6, Try.ntmps6
        go_wp2_with (go_at_call 22; refine (szNet_any _ _ _ _ _ _ (by omega) (by omega) HM.out).mono ?_; rintro e w1 ⟨rfl, hb1⟩)
        go_ret
        exact ⟨rfl, Below.trans (by repeat (first | exact Below.refl _ _ | refine Below.alloc ?_ (by simp; try omega) _ | refine Below.setCell ?_ (by simp; try omega) _)) (hb1.mono (by simp))⟩
      · have hn' : n ≤ 1048576 := by omega
        have HL := leftOf_enough (left := 1048576) (n := (n : Int)) (by omega)
        go_enter Try.func6, Try.ntmps6
        go_wp2_with fail
        refine (szNet_any _ _ _ _ _ _ (by omega) (by omega) HM.out).mono ?_
        rintro e w1 ⟨rfl, hb1⟩
        have P1 := Lib.hid (BoxN.below (pb := w.heap.size) (s := s) (v := .slice a n ca) ⟨by simp [go_sem], by simp [go_sem]⟩ hb1)
        have B1 := Lib.hid (Below.trans (show Below w.heap.size w (w.alloc (.cells #[.int .i64 s, .slice a n ca] 46)) from (by repeat (first | exact Below.refl _ _ | refine Below.alloc ?_ (by simp; try omega) _ | refine Below.setCell ?_ (by simp; try omega) _))) (hb1.mono (by simp)))
        have S0 : Hid (w.heap.size < w1.heap.size) := by have := hb1.size; simp at this; unfold Hid; omega
        clear hb1
        obtain ⟨p0, p1⟩ := P1.out
        go_wp2_with fail
        refine (toNet_any _ _ ts _ _ _ hn (HA.out _ B1.out) hn').mono ?_
        rintro e w2 ⟨g2, rfl, hg2, hb2, ho2⟩
        have R2 := Lib.hid (row_RT hn ho2)
        have P2 := Lib.hid (P1.out.below hb2)
        have B2 := Lib.hid (two_worldsC B1.out hb2)
        have S1 : Hid (w1.heap.size ≤ w2.heap.size) := hb2.size
        clear hb2 ho2 hg2 p0 p1 P1 B1
        go_wp2_with fail
        refine (toInt64S_any _ l0 _ _ _ hm0 (HB0.out _ B2.out) hm0').mono ?_
        rintro e w3 ⟨g3, rfl, hg3, hb3, ho3⟩
        have R3 := Lib.hid (R2.out.below hb3)
        have I0_3 := Lib.hid (rowI_RI hm0 ho3)
        have P3 := Lib.hid (P2.out.below hb3)
        have B3 := Lib.hid (two_worldsC B2.out hb3)
        have S2 : Hid (w2.heap.size ≤ w3.heap.size) := hb3.size
        clear hb3 ho3 hg3 P2 B2 R2
        go_wp2_with fail
        refine (toInt64S_any _ l1 _ _ _ hm1 (HB1.out _ B3.out) hm1').mono ?_
        rintro e w4 ⟨g4, rfl, hg4, hb4, ho4⟩
        have R4 := Lib.hid (R3.out.below hb4)
        have I0_4 := Lib.hid (I0_3.out.below hb4)
        have I1_4 := Lib.hid (rowI_RI hm1 ho4)
        have P4 := Lib.hid (P3.out.below hb4)
        have B4 := Lib.hid (two_worldsC B3.out hb4)
        have S3 : Hid (w3.heap.size ≤ w4.heap.size) := hb4.size
        clear hb4 ho4 hg4 P3 B3 R3 I0_3
        go_wp2_with fail
        refine (specFirstClash_any s  _ _ _ ts l0 l1 _ _ _ _ _ _ _ hn R4.out hn' hm0 I0_4.out hm0' hm1 I1_4.out hm1').mono ?_
        rintro e w5 ⟨rfl, hb5⟩
        generalize hres : firstClashOf s ts l0 l1 = res
        have RES := Lib.hid hres
        clear hres
        have S4 : Hid (w4.heap.size ≤ w5.heap.size) := hb5.size
        have P5 := Lib.hid (P4.out.below hb5)
        have B5 := Lib.hid (two_worldsC B4.out hb5)
        clear hb5 P4 B4 R4 I0_4 I1_4 
        obtain ⟨p0, p1⟩ := P5.out
        go_wp2_with fail
        refine (toNet_any _ _ ts _ _ _ hn (HA.out _ B5.out) hn').mono ?_
        rintro e w6 ⟨g6, rfl, hg6, hb6, ho6⟩
        have E6 : Below w5.heap.size w5 (w6.alloc (.cells #[.int .i64 s, .slice (some ⟨g6, 0, none⟩) n n] 26)) := hb6.alloc hb6.size _
        have XO6 := Lib.hid ((Row.of ho6).below ((Below.refl _ _).alloc (Nat.le_refl _) (.cells #[.int .i64 s, .slice (some ⟨g6, 0, none⟩) n n] 26)))
        have X6 : Hid (BoxN (w6.alloc (.cells #[.int .i64 s, .slice (some ⟨g6, 0, none⟩) n n] 26)) w6.heap.size s (.slice (some ⟨g6, 0, none⟩) n n)) := ⟨by simp [go_sem], by simp [go_sem]⟩
        have S5 : Hid (w5.heap.size ≤ w6.heap.size) := hb6.size
        have S6 : Hid (w6.heap.size < (w6.alloc (.cells #[.int .i64 s, .slice (some ⟨g6, 0, none⟩) n n] 26)).heap.size) := by unfold Hid; simp
        have P6 := Lib.hid (P5.out.below E6)
        have B6 := Lib.hid (two_worldsC B5.out E6)
        clear E6 hb6 ho6 hg6 p0 p1 P5 B5
        go_wp2_with fail
        refine (toInt64S_any _ l0 _ _ _ hm0 (HB0.out _ B6.out) hm0').mono ?_
        rintro e w7 ⟨g7, rfl, hg7, hb7, ho7⟩
        have Y0_7 := Lib.hid (Row.of ho7)
        have S7 : Hid ((w6.alloc (.cells #[.int .i64 s, .slice (some ⟨g6, 0, none⟩) n n] 26)).heap.size ≤ w7.heap.size) := hb7.size
        have P7 := Lib.hid (P6.out.below hb7)
        have X7 := Lib.hid (X6.out.below hb7)
        have XO7 := Lib.hid (XO6.out.below hb7)
        have B7 := Lib.hid (two_worldsC B6.out hb7)
        clear hb7 ho7 hg7 P6 X6 XO6 B6
        go_wp2_with fail
        refine (toInt64S_any _ l1 _ _ _ hm1 (HB1.out _ B7.out) hm1').mono ?_
        rintro e w8 ⟨g8, rfl, hg8, hb8, ho8⟩
        have Y1_8 := Lib.hid (Row.of ho8)
        have S8 : Hid (w7.heap.size ≤ w8.heap.size) := hb8.size
        have P8 := Lib.hid (P7.out.below hb8)
        have X8 := Lib.hid (X7.out.below hb8)
        have XO8 := Lib.hid (XO7.out.below hb8)
        have Y0_8 := Lib.hid (Y0_7.out.below hb8)
        have B8 := Lib.hid (two_worldsC B7.out hb8)
        clear hb8 ho8 hg8 P7 X7 XO7 Y0_7 B7
        have R8 := Lib.hid (row_RT hn XO8.out.1)
        have I0_8 := Lib.hid (rowI_RI hm0 Y0_8.out.1)
        have I1_8 := Lib.hid (rowI_RI hm1 Y1_8.out.1)
        obtain ⟨x0, x1⟩ := X8.out
        go_wp2_with fail
        refine (implFirstClash_any s  _ _ _ ts l0 l1 _ _ _ _ _ _ _ hn R8.out hn' hm0 I0_8.out hm0' hm1 I1_8.out hm1').mono ?_
        rintro e w9 ⟨rfl, hb9⟩
        rw [RES.out]
        have S9 : Hid (w8.heap.size ≤ w9.heap.size) := hb9.size
        have P9 := Lib.hid (P8.out.below hb9)
        have X9 := Lib.hid (X8.out.below hb9)
        have XO9 := Lib.hid (XO8.out.below hb9)
        have Y0_9 := Lib.hid (Y0_8.out.below hb9)
        have Y1_9 := Lib.hid (Y1_8.out.below hb9)
        have B9 := Lib.hid (two_worldsC B8.out hb9)
        clear x0 x1 hb9 P8 X8 XO8 Y0_8 Y1_8 B8 R8 I0_8 I1_8 
        have R9 := Lib.hid (row_RT hn XO9.out.1)
        obtain ⟨x0, x1⟩ := X9.out
        obtain ⟨p0, p1⟩ := P9.out
        go_wp2_with fail
        go_region_held3 (fun w' => w'.cell? ⟨w.heap.size, 0, none⟩ = some (.int .i64 s) ∧ w'.cell? ⟨w.heap.size, 1, none⟩ = some (.slice a n ca) ∧ w'.cell? ⟨w6.heap.size, 0, none⟩ = some (.int .i64 s) ∧ w'.cell? ⟨w6.heap.size, 1, none⟩ = some (.slice (some ⟨g6, 0, none⟩) n n))
          (first | exact ⟨p0, p1, x0, x1⟩ | exact two_boxes (w := w9.drew) ⟨p0, p1⟩ ⟨x0, x1⟩ hb10 | exact two_boxes (w := w9.drew) ⟨p0, p1⟩ ⟨x0, x1⟩ (two_worlds hb10 hb11))
          (first | (go_at_call 24; refine (toNet_any _ _ ts _ _ _ hn (HA.out _ B9.out.drew) hn').mono ?_; rintro e w10 ⟨g10, rfl, hg10, hb10, ho10⟩) | (go_at_call 27; refine (eqNet_any s s _ _ ts ts _ _ _ _ _ hn hn ((R9.out.below (Below.refl _ _).drew).below hb10) (row_RT hn ho10) HM.out).mono ?_; rintro e w11 ⟨rfl, hb11⟩))
        have E11 : Below w9.heap.size w9 w11 := (Below.refl _ _).drew.trans (two_worlds hb10 hb11)
        have P11 := Lib.hid (P9.out.below E11)
        have X11 := Lib.hid (X9.out.below E11)
        have XO11 := Lib.hid (XO9.out.below E11)
        have Y0_11 := Lib.hid (Y0_9.out.below E11)
        have Y1_11 := Lib.hid (Y1_9.out.below E11)
        have B11 := Lib.hid (two_worldsC B9.out E11)
        have S10 : Hid (w9.heap.size ≤ w11.heap.size) := E11.size
        clear E11 hb10 hb11 ho10 hg10 x0 x1 p0 p1 R9 P9 X9 XO9 Y0_9 Y1_9 B9
        go_wp2_with fail
        refine (toInt64S_any _ l0 _ _ _ hm0 (HB0.out _ B11.out) hm0').mono ?_
        rintro e w12 ⟨g12, rfl, hg12, hb12, ho12⟩
        have Z12 := Lib.hid (rowI_RI hm0 ho12)
        have S11 : Hid (w11.heap.size ≤ w12.heap.size) := hb12.size
        have P12 := Lib.hid (P11.out.below hb12)
        have X12 := Lib.hid (X11.out.below hb12)
        have XO12 := Lib.hid (XO11.out.below hb12)
        have Y0_12 := Lib.hid (Y0_11.out.below hb12)
        have Y1_12 := Lib.hid (Y1_11.out.below hb12)
        have B12 := Lib.hid (two_worldsC B11.out hb12)
        clear hb12 ho12 hg12 P11 X11 XO11 Y0_11 Y1_11 B11
        have V12 := Lib.hid (rowI_RI hm0 Y0_12.out.1)
        go_wp2_with fail
        refine (eqInt64S_any _ _ l0 l0 _ _ _ _ _ hm0 hm0 V12.out Z12.out HM0.out).mono ?_
        rintro e w13 ⟨rfl, hb13⟩
        have P13 := Lib.hid (P12.out.below hb13)
        have X13 := Lib.hid (X12.out.below hb13)
        have XO13 := Lib.hid (XO12.out.below hb13)
        have Y0_13 := Lib.hid (Y0_12.out.below hb13)
        have Y1_13 := Lib.hid (Y1_12.out.below hb13)
        have B13 := Lib.hid (two_worldsC B12.out hb13)
        have S12 : Hid (w12.heap.size ≤ w13.heap.size) := hb13.size
        clear hb13 P12 X12 XO12 Y0_12 Y1_12 B12 V12 Z12
        go_wp2_with fail
        refine (toInt64S_any _ l1 _ _ _ hm1 (HB1.out _ B13.out) hm1').mono ?_
        rintro e w14 ⟨g14, rfl, hg14, hb14, ho14⟩
        have Z14 := Lib.hid (rowI_RI hm1 ho14)
        have S13 : Hid (w13.heap.size ≤ w14.heap.size) := hb14.size
        have P14 := Lib.hid (P13.out.below hb14)
        have X14 := Lib.hid (X13.out.below hb14)
        have XO14 := Lib.hid (XO13.out.below hb14)
        have Y0_14 := Lib.hid (Y0_13.out.below hb14)
        have Y1_14 := Lib.hid (Y1_13.out.below hb14)
        have B14 := Lib.hid (two_worldsC B13.out hb14)
        clear hb14 ho14 hg14 P13 X13 XO13 Y0_13 Y1_13 B13
        have V14 := Lib.hid (rowI_RI hm1 Y1_14.out.1)
        go_wp2_with fail
        refine (eqInt64S_any _ _ l1 l1 _ _ _ _ _ hm1 hm1 V14.out Z14.out HM1.out).mono ?_
        rintro e w15 ⟨rfl, hb15⟩
        have P15 := Lib.hid (P14.out.below hb15)
        have X15 := Lib.hid (X14.out.below hb15)
        have XO15 := Lib.hid (XO14.out.below hb15)
        have Y0_15 := Lib.hid (Y0_14.out.below hb15)
        have Y1_15 := Lib.hid (Y1_14.out.below hb15)
        have B15 := Lib.hid (two_worldsC B14.out hb15)
        have S14 : Hid (w14.heap.size ≤ w15.heap.size) := hb15.size
        clear hb15 P14 X14 XO14 Y0_14 Y1_14 B14 V14 Z14
        go_wp2
        go_ret
        exact ⟨rfl, B15.out⟩
end Go.Proofs.Ytenjigifjkfiaaa.fnExactFirstClash
