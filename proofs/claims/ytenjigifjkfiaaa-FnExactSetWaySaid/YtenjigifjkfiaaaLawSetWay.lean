/-
  The walk of the law FnExactSetWay: it returns true at every input.
-/
import Derived.Test.YtenjigifjkfiaaaSetWayImpl
import Derived.Test.YtenjigifjkfiaaaLawRow
namespace Go.Proofs.Ytenjigifjkfiaaa.fnExactSetWay
open Go.RowKit
set_option maxHeartbeats 2000000 in
theorem walk {w : World} (v : Value) (x : Int × List T3) (hx : NetIn w v x) (v0 : Value) (l0 : List Int) (hw0 : NumsIn w v0 l0) (v1 : Value) (l1 : List Int) (hw1 : NumsIn w v1 l1) :
    Calls Try.prog 4 #[v, v0, v1] w fun e w' => e = .returned (.bool true) ∧ Below w.heap.size w w' := by
  obtain ⟨s, ts⟩ := x
  obtain ⟨a, n, ca, rfl, hn, hmax, ha, _, _⟩ := hx
  obtain ⟨b0, m0, c0, rfl, hm0, hmax0, hb0, _⟩ := hw0
  obtain ⟨b1, m1, c1, rfl, hm1, hmax1, hb1, _⟩ := hw1
  simp only at ha hn
  have HM := Lib.hid hmax
  have HM0 := Lib.hid hmax0
  have HM1 := Lib.hid hmax1
  have HA : Hid (∀ w', Below w.heap.size w w' → RT w' a ts) := fun w' h => ha.below h
  have HB0 : Hid (∀ w', Below w.heap.size w w' → RI w' b0 l0) := fun w' h => hb0.below h
  have HB1 : Hid (∀ w', Below w.heap.size w w' → RI w' b1 l1) := fun w' h => hb1.below h
  clear ha hb0 hb1
  unfold maxLen at hmax hmax0 hmax1
  by_cases h0 : 1048576 < m0
  · go_enter Try.func4, Try.ntmps4
    go_wp2
    go_ret
    exact ⟨rfl, (by repeat (first | exact Below.refl _ _ | refine Below.alloc ?_ (by simp; try omega) _ | refine Below.setCell ?_ (by simp; try omega) _))⟩
  · have hm0' : m0 ≤ 1048576 := by omega
    by_cases h1 : 1048576 < m1
    · go_enter Try.func4, Try.ntmps4
      go_wp2
      go_ret
      exact ⟨rfl, (by repeat (first | exact Below.refl _ _ | refine Below.alloc ?_ (by simp; try omega) _ | refine Below.setCell ?_ (by simp; try omega) _))⟩
    · have hm1' : m1 ≤ 1048576 := by omega
      by_cases h : 1048576 < n
      · have HL := leftOf_less (left := 1048576) (n := (n : Int)) (by omega)
        go_enter Try.func4, Try.ntmps4
        go_wp2_with (go_at_call 22; refine (szNet_any _ _ _ _ _ _ (by omega) (by omega) HM.out).mono ?_; rintro e w1 ⟨rfl, hb1⟩)
        go_ret
        exact ⟨rfl, Below.trans (by repeat (first | exact Below.refl _ _ | refine Below.alloc ?_ (by simp; try omega) _ | refine Below.setCell ?_ (by simp; try omega) _)) (hb1.mono (by simp))⟩
      · have hn' : n ≤ 1048576 := by omega
        have HL := leftOf_enough (left := 1048576) (n := (n : Int)) (by omega)
        go_enter Try.func4, Try.ntmps4
        go_wp2_with fail
        refine (szNet_any _ _ _ _ _ _ (by omega) (by omega) HM.out).mono ?_
        rintro e w1 ⟨rfl, hb1⟩
        have P1 := Lib.hid (BoxN.below (pb := w.heap.size) (s := s) (v := .slice a n ca) ⟨by simp [go_sem], by simp [go_sem]⟩ hb1)
        have B1 := Lib.hid (Below.trans (show Below w.heap.size w (w.alloc (.cells #[.int .i64 s, .slice a n ca] 46)) from (by repeat (first | exact Below.refl _ _ | refine Below.alloc ?_ (by simp; try omega) _ | refine Below.setCell ?_ (by simp; try omega) _))) (hb1.mono (by simp)))
        have S0 : Hid (w.heap.size < w1.heap.size) := by have := hb1.size; simp at this; unfold Hid; omega
        clear hb1
        obtain ⟨p0, p1⟩ := P1.out
        go_wp2_with fail
        refine (toNet_any _ _ ts _ _ _ hn (HA.out _ B1.out) hn').mono ?_
        rintro e w2 ⟨g2, rfl, hg2, hb2, ho2⟩
        have R2 := Lib.hid (row_RT hn ho2)
        have P2 := Lib.hid (P1.out.below hb2)
        have B2 := Lib.hid (two_worldsC B1.out hb2)
        have S1 : Hid (w1.heap.size ≤ w2.heap.size) := hb2.size
        clear hb2 ho2 hg2 p0 p1 P1 B1
        go_wp2_with fail
        refine (toInt64S_any _ l0 _ _ _ hm0 (HB0.out _ B2.out) hm0').mono ?_
        rintro e w3 ⟨g3, rfl, hg3, hb3, ho3⟩
        have R3 := Lib.hid (R2.out.below hb3)
        have I0_3 := Lib.hid (rowI_RI hm0 ho3)
        have P3 := Lib.hid (P2.out.below hb3)
        have B3 := Lib.hid (two_worldsC B2.out hb3)
        have S2 : Hid (w2.heap.size ≤ w3.heap.size) := hb3.size
        clear hb3 ho3 hg3 P2 B2 R2
        go_wp2_with fail
        refine (toInt64S_any _ l1 _ _ _ hm1 (HB1.out _ B3.out) hm1').mono ?_
        rintro e w4 ⟨g4, rfl, hg4, hb4, ho4⟩
        have R4 := Lib.hid (R3.out.below hb4)
        have I0_4 := Lib.hid (I0_3.out.below hb4)
        have I1_4 := Lib.hid (rowI_RI hm1 ho4)
        have P4 := Lib.hid (P3.out.below hb4)
        have B4 := Lib.hid (two_worldsC B3.out hb4)
        have S3 : Hid (w3.heap.size ≤ w4.heap.size) := hb4.size
        clear hb4 ho4 hg4 P3 B3 R3 I0_3
        obtain ⟨ws, rc, hres⟩ : ∃ ws rc, setWayOf s ts l0 l1 = (ws, rc) := ⟨_, _, rfl⟩
        have hlen := setWayOf_len s ts l0 l1
        rw [hres] at hlen
        simp only at hlen
        obtain ⟨m, hm⟩ : ∃ m, ws.length = m := ⟨_, rfl⟩
        rw [hm] at hlen
        have HML := Lib.hid hm
        have RES := Lib.hid hres
        clear hres hm
        have HMM : Hid (m ≤ maxLen) := by unfold Hid maxLen; omega
        go_wp2_with fail
        refine (specSetWay_any s  _ _ _ ts l0 l1 _ _ _ _ _ _ _ hn R4.out hn' hm0 I0_4.out hm0' hm1 I1_4.out hm1').mono ?_
        intro e w5 hgv
        rw [RES.out] at hgv
        obtain ⟨aw, cw, rfl, hb5, ho5⟩ := hgv.elim HML
        clear hgv
        have W5 := Lib.hid (Row.of ho5)
        have S4 : Hid (w4.heap.size ≤ w5.heap.size) := hb5.size
        have P5 := Lib.hid (P4.out.below hb5)
        have B5 := Lib.hid (two_worldsC B4.out hb5)
        clear hb5 P4 B4 R4 I0_4 I1_4 ho5
        obtain ⟨p0, p1⟩ := P5.out
        go_wp2_with fail
        refine (toNet_any _ _ ts _ _ _ hn (HA.out _ B5.out) hn').mono ?_
        rintro e w6 ⟨g6, rfl, hg6, hb6, ho6⟩
        have E6 : Below w5.heap.size w5 (w6.alloc (.cells #[.int .i64 s, .slice (some ⟨g6, 0, none⟩) n n] 26)) := hb6.alloc hb6.size _
        have XO6 := Lib.hid ((Row.of ho6).below ((Below.refl _ _).alloc (Nat.le_refl _) (.cells #[.int .i64 s, .slice (some ⟨g6, 0, none⟩) n n] 26)))
        have X6 : Hid (BoxN (w6.alloc (.cells #[.int .i64 s, .slice (some ⟨g6, 0, none⟩) n n] 26)) w6.heap.size s (.slice (some ⟨g6, 0, none⟩) n n)) := ⟨by simp [go_sem], by simp [go_sem]⟩
        have S5 : Hid (w5.heap.size ≤ w6.heap.size) := hb6.size
        have S6 : Hid (w6.heap.size < (w6.alloc (.cells #[.int .i64 s, .slice (some ⟨g6, 0, none⟩) n n] 26)).heap.size) := by unfold Hid; simp
        have P6 := Lib.hid (P5.out.below E6)
        have W6 := Lib.hid (W5.out.below E6)
        have B6 := Lib.hid (two_worldsC B5.out E6)
        clear E6 hb6 ho6 hg6 p0 p1 P5 W5 B5
        go_wp2_with fail
        refine (toInt64S_any _ l0 _ _ _ hm0 (HB0.out _ B6.out) hm0').mono ?_
        rintro e w7 ⟨g7, rfl, hg7, hb7, ho7⟩
        have Y0_7 := Lib.hid (Row.of ho7)
        have S7 : Hid ((w6.alloc (.cells #[.int .i64 s, .slice (some ⟨g6, 0, none⟩) n n] 26)).heap.size ≤ w7.heap.size) := hb7.size
        have P7 := Lib.hid (P6.out.below hb7)
        have W7 := Lib.hid (W6.out.below hb7)
        have X7 := Lib.hid (X6.out.below hb7)
        have XO7 := Lib.hid (XO6.out.below hb7)
        have B7 := Lib.hid (two_worldsC B6.out hb7)
        clear hb7 ho7 hg7 P6 W6 X6 XO6 B6
        go_wp2_with fail
        refine (toInt64S_any _ l1 _ _ _ hm1 (HB1.out _ B7.out) hm1').mono ?_
        rintro e w8 ⟨g8, rfl, hg8, hb8, ho8⟩
        have Y1_8 := Lib.hid (Row.of ho8)
        have S8 : Hid (w7.heap.size ≤ w8.heap.size) := hb8.size
        have P8 := Lib.hid (P7.out.below hb8)
        have W8 := Lib.hid (W7.out.below hb8)
        have X8 := Lib.hid (X7.out.below hb8)
        have XO8 := Lib.hid (XO7.out.below hb8)
        have Y0_8 := Lib.hid (Y0_7.out.below hb8)
        have B8 := Lib.hid (two_worldsC B7.out hb8)
        clear hb8 ho8 hg8 P7 W7 X7 XO7 Y0_7 B7
        have R8 := Lib.hid (row_RT hn XO8.out.1)
        have I0_8 := Lib.hid (rowI_RI hm0 Y0_8.out.1)
        have I1_8 := Lib.hid (rowI_RI hm1 Y1_8.out.1)
        obtain ⟨x0, x1⟩ := X8.out
        go_wp2_with fail
        refine (implSetWay_any s  _ _ _ ts l0 l1 _ _ _ _ _ _ _ hn R8.out hn' hm0 I0_8.out hm0' hm1 I1_8.out hm1').mono ?_
        intro e w9 hgv
        rw [RES.out] at hgv
        obtain ⟨ag, cg, rfl, hb9, ho9⟩ := hgv.elim HML
        clear hgv
        have G9 := Lib.hid (Row.of ho9)
        have S9 : Hid (w8.heap.size ≤ w9.heap.size) := hb9.size
        have P9 := Lib.hid (P8.out.below hb9)
        have W9 := Lib.hid (W8.out.below hb9)
        have X9 := Lib.hid (X8.out.below hb9)
        have XO9 := Lib.hid (XO8.out.below hb9)
        have Y0_9 := Lib.hid (Y0_8.out.below hb9)
        have Y1_9 := Lib.hid (Y1_8.out.below hb9)
        have B9 := Lib.hid (two_worldsC B8.out hb9)
        clear x0 x1 hb9 P8 W8 X8 XO8 Y0_8 Y1_8 B8 R8 I0_8 I1_8 ho9
        have Q9 := Lib.hid (own_RI HML G9.out.1)
        have U9 := Lib.hid (own_RI HML W9.out.1)
        go_wp2_with fail
        refine (eqInt64S_any _ _ ws ws _ _ _ _ _ HML HML Q9.out U9.out HMM.out).mono ?_
        rintro e w10 ⟨rfl, hb10⟩
        have P10 := Lib.hid (P9.out.below hb10)
        have W10 := Lib.hid (W9.out.below hb10)
        have X10 := Lib.hid (X9.out.below hb10)
        have XO10 := Lib.hid (XO9.out.below hb10)
        have Y0_10 := Lib.hid (Y0_9.out.below hb10)
        have Y1_10 := Lib.hid (Y1_9.out.below hb10)
        have G10 := Lib.hid (G9.out.below hb10)
        have B10 := Lib.hid (two_worldsC B9.out hb10)
        have S10 : Hid (w9.heap.size ≤ w10.heap.size) := hb10.size
        clear hb10 P9 W9 X9 XO9 Y0_9 Y1_9 G9 B9 Q9 U9
        have R10 := Lib.hid (row_RT hn XO10.out.1)
        obtain ⟨x0, x1⟩ := X10.out
        obtain ⟨p0, p1⟩ := P10.out
        go_wp2_with fail
        go_region_held3 (fun w' => w'.cell? ⟨w.heap.size, 0, none⟩ = some (.int .i64 s) ∧ w'.cell? ⟨w.heap.size, 1, none⟩ = some (.slice a n ca) ∧ w'.cell? ⟨w6.heap.size, 0, none⟩ = some (.int .i64 s) ∧ w'.cell? ⟨w6.heap.size, 1, none⟩ = some (.slice (some ⟨g6, 0, none⟩) n n))
          (first | exact ⟨p0, p1, x0, x1⟩ | exact two_boxes (w := w10.drew) ⟨p0, p1⟩ ⟨x0, x1⟩ hb11 | exact two_boxes (w := w10.drew) ⟨p0, p1⟩ ⟨x0, x1⟩ (two_worlds hb11 hb12))
          (first | (go_at_call 24; refine (toNet_any _ _ ts _ _ _ hn (HA.out _ B10.out.drew) hn').mono ?_; rintro e w11 ⟨g11, rfl, hg11, hb11, ho11⟩) | (go_at_call 27; refine (eqNet_any s s _ _ ts ts _ _ _ _ _ hn hn ((R10.out.below (Below.refl _ _).drew).below hb11) (row_RT hn ho11) HM.out).mono ?_; rintro e w12 ⟨rfl, hb12⟩))
        have E12 : Below w10.heap.size w10 w12 := (Below.refl _ _).drew.trans (two_worlds hb11 hb12)
        have P12 := Lib.hid (P10.out.below E12)
        have W12 := Lib.hid (W10.out.below E12)
        have X12 := Lib.hid (X10.out.below E12)
        have XO12 := Lib.hid (XO10.out.below E12)
        have Y0_12 := Lib.hid (Y0_10.out.below E12)
        have Y1_12 := Lib.hid (Y1_10.out.below E12)
        have G12 := Lib.hid (G10.out.below E12)
        have B12 := Lib.hid (two_worldsC B10.out E12)
        have S11 : Hid (w10.heap.size ≤ w12.heap.size) := E12.size
        clear E12 hb11 hb12 ho11 hg11 x0 x1 p0 p1 R10 P10 W10 X10 XO10 Y0_10 Y1_10 G10 B10
        go_wp2_with fail
        refine (toInt64S_any _ l0 _ _ _ hm0 (HB0.out _ B12.out) hm0').mono ?_
        rintro e w13 ⟨g13, rfl, hg13, hb13, ho13⟩
        have Z13 := Lib.hid (rowI_RI hm0 ho13)
        have S12 : Hid (w12.heap.size ≤ w13.heap.size) := hb13.size
        have P13 := Lib.hid (P12.out.below hb13)
        have W13 := Lib.hid (W12.out.below hb13)
        have X13 := Lib.hid (X12.out.below hb13)
        have XO13 := Lib.hid (XO12.out.below hb13)
        have Y0_13 := Lib.hid (Y0_12.out.below hb13)
        have Y1_13 := Lib.hid (Y1_12.out.below hb13)
        have G13 := Lib.hid (G12.out.below hb13)
        have B13 := Lib.hid (two_worldsC B12.out hb13)
        clear hb13 ho13 hg13 P12 W12 X12 XO12 Y0_12 Y1_12 G12 B12
        have V13 := Lib.hid (rowI_RI hm0 Y0_13.out.1)
        go_wp2_with fail
        refine (eqInt64S_any _ _ l0 l0 _ _ _ _ _ hm0 hm0 V13.out Z13.out HM0.out).mono ?_
        rintro e w14 ⟨rfl, hb14⟩
        have P14 := Lib.hid (P13.out.below hb14)
        have W14 := Lib.hid (W13.out.below hb14)
        have X14 := Lib.hid (X13.out.below hb14)
        have XO14 := Lib.hid (XO13.out.below hb14)
        have Y0_14 := Lib.hid (Y0_13.out.below hb14)
        have Y1_14 := Lib.hid (Y1_13.out.below hb14)
        have G14 := Lib.hid (G13.out.below hb14)
        have B14 := Lib.hid (two_worldsC B13.out hb14)
        have S13 : Hid (w13.heap.size ≤ w14.heap.size) := hb14.size
        clear hb14 P13 W13 X13 XO13 Y0_13 Y1_13 G13 B13 V13 Z13
        go_wp2_with fail
        refine (toInt64S_any _ l1 _ _ _ hm1 (HB1.out _ B14.out) hm1').mono ?_
        rintro e w15 ⟨g15, rfl, hg15, hb15, ho15⟩
        have Z15 := Lib.hid (rowI_RI hm1 ho15)
        have S14 : Hid (w14.heap.size ≤ w15.heap.size) := hb15.size
        have P15 := Lib.hid (P14.out.below hb15)
        have W15 := Lib.hid (W14.out.below hb15)
        have X15 := Lib.hid (X14.out.below hb15)
        have XO15 := Lib.hid (XO14.out.below hb15)
        have Y0_15 := Lib.hid (Y0_14.out.below hb15)
        have Y1_15 := Lib.hid (Y1_14.out.below hb15)
        have G15 := Lib.hid (G14.out.below hb15)
        have B15 := Lib.hid (two_worldsC B14.out hb15)
        clear hb15 ho15 hg15 P14 W14 X14 XO14 Y0_14 Y1_14 G14 B14
        have V15 := Lib.hid (rowI_RI hm1 Y1_15.out.1)
        go_wp2_with fail
        refine (eqInt64S_any _ _ l1 l1 _ _ _ _ _ hm1 hm1 V15.out Z15.out HM1.out).mono ?_
        rintro e w16 ⟨rfl, hb16⟩
        have P16 := Lib.hid (P15.out.below hb16)
        have W16 := Lib.hid (W15.out.below hb16)
        have X16 := Lib.hid (X15.out.below hb16)
        have XO16 := Lib.hid (XO15.out.below hb16)
        have Y0_16 := Lib.hid (Y0_15.out.below hb16)
        have Y1_16 := Lib.hid (Y1_15.out.below hb16)
        have G16 := Lib.hid (G15.out.below hb16)
        have B16 := Lib.hid (two_worldsC B15.out hb16)
        have S15 : Hid (w15.heap.size ≤ w16.heap.size) := hb16.size
        clear hb16 P15 W15 X15 XO15 Y0_15 Y1_15 G15 B15 V15 Z15
        obtain ⟨x0, x1⟩ := X16.out
        go_wp2_with fail
        refine (markNet_any s (some ⟨g6, 0, none⟩) _ _ n n 1 _ XO16.out.1 (by omega) (by omega) (by omega)).mono ?_
        rintro e w17 ⟨rfl, hgr, hom⟩
        have hu := XO16.out.2
        have nn := And.intro S0.out (And.intro S1.out (And.intro S2.out (And.intro S3.out (And.intro S4.out (And.intro S5.out (And.intro S6.out (And.intro S7.out (And.intro S8.out (And.intro S9.out (And.intro S10.out (And.intro S11.out (And.intro S12.out (And.intro S13.out (And.intro S14.out S15.out))))))))))))))
        have P17 := Lib.hid (P16.out.kept hgr hu (by omega))
        have W17 := Lib.hid (W16.out.kept hgr hu (by omega))
        have X17 := Lib.hid (X16.out.kept hgr hu (by omega))
        have Y0_17 := Lib.hid (Y0_16.out.kept hgr hu (by omega))
        have Y1_17 := Lib.hid (Y1_16.out.kept hgr hu (by omega))
        have G17 := Lib.hid (G16.out.kept hgr hu (by omega))
        have B17 : Hid (Below w.heap.size w w17) := below_mark B16.out hgr B16.out.size hu (by omega)
        have S16 : Hid (w16.heap.size ≤ w17.heap.size) := hgr.size
        clear hgr hom nn hu P16 W16 X16 XO16 Y0_16 Y1_16 G16 B16
        clear x0 x1 X17
        go_wp2_with fail
        refine (markInt64S_any (some ⟨g7, 0, none⟩) _ _ m0 m0 (1 + 3 * (n : Int)) _ Y0_17.out.1 (by omega) (by omega) (by omega)).mono ?_
        rintro e w18 ⟨rfl, hgr, hom⟩
        have hu := Y0_17.out.2
        have nn := And.intro S0.out (And.intro S1.out (And.intro S2.out (And.intro S3.out (And.intro S4.out (And.intro S5.out (And.intro S6.out (And.intro S7.out (And.intro S8.out (And.intro S9.out (And.intro S10.out (And.intro S11.out (And.intro S12.out (And.intro S13.out (And.intro S14.out (And.intro S15.out S16.out)))))))))))))))
        have P18 := Lib.hid (P17.out.kept hgr hu (by omega))
        have W18 := Lib.hid (W17.out.kept hgr hu (by omega))
        have Y1_18 := Lib.hid (Y1_17.out.kept hgr hu (by omega))
        have G18 := Lib.hid (G17.out.kept hgr hu (by omega))
        have B18 : Hid (Below w.heap.size w w18) := below_mark B17.out hgr B17.out.size hu (by omega)
        have S17 : Hid (w17.heap.size ≤ w18.heap.size) := hgr.size
        clear hgr hom nn hu P17 W17 Y0_17 Y1_17 G17 B17
        go_wp2_with fail
        refine (markInt64S_any (some ⟨g8, 0, none⟩) _ _ m1 m1 ((1 + 3 * (n : Int)) + (m0 : Int)) _ Y1_18.out.1 (by omega) (by omega) (by omega)).mono ?_
        rintro e w19 ⟨rfl, hgr, hom⟩
        have hu := Y1_18.out.2
        have nn := And.intro S0.out (And.intro S1.out (And.intro S2.out (And.intro S3.out (And.intro S4.out (And.intro S5.out (And.intro S6.out (And.intro S7.out (And.intro S8.out (And.intro S9.out (And.intro S10.out (And.intro S11.out (And.intro S12.out (And.intro S13.out (And.intro S14.out (And.intro S15.out (And.intro S16.out S17.out))))))))))))))))
        have P19 := Lib.hid (P18.out.kept hgr hu (by omega))
        have W19 := Lib.hid (W18.out.kept hgr hu (by omega))
        have G19 := Lib.hid (G18.out.kept hgr hu (by omega))
        have B19 : Hid (Below w.heap.size w w19) := below_mark B18.out hgr B18.out.size hu (by omega)
        have S18 : Hid (w18.heap.size ≤ w19.heap.size) := hgr.size
        clear hgr hom nn hu P18 W18 Y1_18 G18 B18
        have Q19 := Lib.hid (own_RI HML G19.out.1)
        have U19 := Lib.hid (own_RI HML W19.out.1)
        go_wp2_with fail
        refine (eqInt64S_any _ _ ws ws _ _ _ _ _ HML HML Q19.out U19.out HMM.out).mono ?_
        rintro e w20 ⟨rfl, hb20⟩
        have P20 := Lib.hid (P19.out.below hb20)
        have W20 := Lib.hid (W19.out.below hb20)
        have G20 := Lib.hid (G19.out.below hb20)
        have B20 := Lib.hid (two_worldsC B19.out hb20)
        have S19 : Hid (w19.heap.size ≤ w20.heap.size) := hb20.size
        clear hb20 P19 W19 G19 B19 Q19 U19
        go_wp2_with fail
        refine (markInt64S_any ag _ _ m cg 1 _ G20.out.1 (by omega) (by omega) (by omega)).mono ?_
        rintro e w21 ⟨rfl, hgr, hom⟩
        have hu := G20.out.2
        have nn := And.intro S0.out (And.intro S1.out (And.intro S2.out (And.intro S3.out (And.intro S4.out (And.intro S5.out (And.intro S6.out (And.intro S7.out (And.intro S8.out (And.intro S9.out (And.intro S10.out (And.intro S11.out (And.intro S12.out (And.intro S13.out (And.intro S14.out (And.intro S15.out (And.intro S16.out (And.intro S17.out (And.intro S18.out S19.out))))))))))))))))))
        have P21 := Lib.hid (P20.out.kept hgr hu (by omega))
        have W21 := Lib.hid (W20.out.kept hgr hu (by omega))
        have B21 : Hid (Below w.heap.size w w21) := below_mark B20.out hgr B20.out.size hu (by omega)
        have S20 : Hid (w20.heap.size ≤ w21.heap.size) := hgr.size
        have M21 : Hid (Row _ _ 2 1 (.slice ag m cg) m ((marksI 1 m).map (Value.int .i64)) w21) := ⟨hom, hu⟩
        clear hgr hom nn hu P20 W20 G20 B20
        have Q21 := Lib.hid (own_RI (marksI_length 1 m) M21.out.1)
        go_wp2_with fail
        refine (heldInt64S_any ag m cg 1 _ Q21.out (by omega) (by omega) (by omega)).mono ?_
        rintro e w' ⟨rfl, rfl⟩
        clear Q21
        obtain ⟨p0, p1⟩ := P21.out
        go_wp2_with fail
        refine (toNet_any _ _ ts _ _ _ hn (HA.out _ B21.out) hn').mono ?_
        rintro e w22 ⟨g22, rfl, hg22, hb22, ho22⟩
        have R22 := Lib.hid (row_RT hn ho22)
        have P22 := Lib.hid (P21.out.below hb22)
        have W22 := Lib.hid (W21.out.below hb22)
        have M22 := Lib.hid (M21.out.below hb22)
        have B22 := Lib.hid (two_worldsC B21.out hb22)
        have S21 : Hid (w21.heap.size ≤ w22.heap.size) := hb22.size
        clear hb22 ho22 hg22 p0 p1 P21 W21 M21 B21
        go_wp2_with fail
        refine (toInt64S_any _ l0 _ _ _ hm0 (HB0.out _ B22.out) hm0').mono ?_
        rintro e w23 ⟨g23, rfl, hg23, hb23, ho23⟩
        have R23 := Lib.hid (R22.out.below hb23)
        have I0_23 := Lib.hid (rowI_RI hm0 ho23)
        have P23 := Lib.hid (P22.out.below hb23)
        have W23 := Lib.hid (W22.out.below hb23)
        have M23 := Lib.hid (M22.out.below hb23)
        have B23 := Lib.hid (two_worldsC B22.out hb23)
        have S22 : Hid (w22.heap.size ≤ w23.heap.size) := hb23.size
        clear hb23 ho23 hg23 P22 W22 M22 B22 R22
        go_wp2_with fail
        refine (toInt64S_any _ l1 _ _ _ hm1 (HB1.out _ B23.out) hm1').mono ?_
        rintro e w24 ⟨g24, rfl, hg24, hb24, ho24⟩
        have R24 := Lib.hid (R23.out.below hb24)
        have I0_24 := Lib.hid (I0_23.out.below hb24)
        have I1_24 := Lib.hid (rowI_RI hm1 ho24)
        have P24 := Lib.hid (P23.out.below hb24)
        have W24 := Lib.hid (W23.out.below hb24)
        have M24 := Lib.hid (M23.out.below hb24)
        have B24 := Lib.hid (two_worldsC B23.out hb24)
        have S23 : Hid (w23.heap.size ≤ w24.heap.size) := hb24.size
        clear hb24 ho24 hg24 P23 W23 M23 B23 R23 I0_23
        go_wp2_with fail
        refine (implSetWay_any s  _ _ _ ts l0 l1 _ _ _ _ _ _ _ hn R24.out hn' hm0 I0_24.out hm0' hm1 I1_24.out hm1').mono ?_
        intro e w25 hgv
        rw [RES.out] at hgv
        obtain ⟨ah, ch, rfl, hb25, ho25⟩ := hgv.elim HML
        clear hgv
        have H25 := Lib.hid (own_RI HML ho25)
        have S24 : Hid (w24.heap.size ≤ w25.heap.size) := hb25.size
        have P25 := Lib.hid (P24.out.below hb25)
        have W25 := Lib.hid (W24.out.below hb25)
        have M25 := Lib.hid (M24.out.below hb25)
        have B25 := Lib.hid (two_worldsC B24.out hb25)
        clear hb25 ho25 P24 W24 M24 B24 R24 I0_24 I1_24
        have U25 := Lib.hid (own_RI HML W25.out.1)
        go_wp2_with fail
        refine (eqInt64S_any _ _ ws ws _ _ _ _ _ HML HML H25.out U25.out HMM.out).mono ?_
        rintro e w26 ⟨rfl, hb26⟩
        have P26 := Lib.hid (P25.out.below hb26)
        have W26 := Lib.hid (W25.out.below hb26)
        have M26 := Lib.hid (M25.out.below hb26)
        have B26 := Lib.hid (two_worldsC B25.out hb26)
        have S25 : Hid (w25.heap.size ≤ w26.heap.size) := hb26.size
        clear hb26 P25 W25 M25 B25 H25 U25
        have Q26 := Lib.hid (own_RI (marksI_length 1 m) M26.out.1)
        go_wp2_with fail
        refine (heldInt64S_any ag m cg 1 _ Q26.out (by omega) (by omega) (by omega)).mono ?_
        rintro e w' ⟨rfl, rfl⟩
        go_wp2
        go_ret
        exact ⟨rfl, B26.out⟩
end Go.Proofs.Ytenjigifjkfiaaa.fnExactSetWay
