/-
  The walk of the law FnExactCircleStations: it returns true at every input.
-/
import Derived.Test.YtpjgpnaigjdaeaaCircle
import Derived.Test.YtpjgpnaigjdaeaaLawRow
namespace Go.Proofs.Ytpjgpnaigjdaeaa.fnExactCircleStations
open Go.RowKit
set_option maxHeartbeats 2000000 in
theorem walk {w : World} (v : Value) (x : Int × List T3) (hx : NetIn w v x) (v0 : Value) (l0 : List Int) (hw0 : NumsIn w v0 l0) :
    Calls Try.prog 8 #[v, v0] w fun e w' => e = .returned (.bool true) ∧ Below w.heap.size w w' := by
  obtain ⟨s, ts⟩ := x
  obtain ⟨a, n, ca, rfl, hn, hmax, ha, _, _⟩ := hx
  obtain ⟨b0, m0, c0, rfl, hm0, hmax0, hb0, _⟩ := hw0
  simp only at ha hn
  have HM := Lib.hid hmax
  have HM0 := Lib.hid hmax0
  have HA : Hid (∀ w', Below w.heap.size w w' → RT w' a ts) := fun w' h => ha.below h
  have HB0 : Hid (∀ w', Below w.heap.size w w' → RI w' b0 l0) := fun w' h => hb0.below h
  clear ha hb0
  unfold maxLen at hmax hmax0
  by_cases h0 : 1048576 < m0
  · go_enter Try.func8, Try.ntmps8
    go_wp2
    go_ret
    exact ⟨rfl, (by repeat (first | exact Below.refl _ _ | refine Below.alloc ?_ (by simp; try omega) _ | refine Below.setCell ?_ (by simp; try omega) _))⟩
  · have hm0' : m0 ≤ 1048576 := by omega
    by_cases h : 1048576 < n
    · have HL := leftOf_less (left := 1048576) (n := (n : Int)) (by omega)
      go_enter Try.func8, Try.ntmps8
      go_wp2_with (go_at_call 34; refine (szNet_any _ _ _ _ _ _ (by omega) (by omega) HM.out).mono ?_; rintro e w1 ⟨rfl, hb1⟩)
      go_ret
      exact ⟨rfl, Below.trans (by repeat (first | exact Below.refl _ _ | refine Below.alloc ?_ (by simp; try omega) _ | refine Below.setCell ?_ (by simp; try omega) _)) (hb1.mono (by simp))⟩
    · have hn' : n ≤ 1048576 := by omega
      have HL := leftOf_enough (left := 1048576) (n := (n : Int)) (by omega)
      go_enter Try.func8, Try.ntmps8
      go_wp2_with fail
      refine (szNet_any _ _ _ _ _ _ (by omega) (by omega) HM.out).mono ?_
      rintro e w1 ⟨rfl, hb1⟩
      have P1 := Lib.hid (BoxN.below (pb := w.heap.size) (s := s) (v := .slice a n ca) ⟨by simp [go_sem], by simp [go_sem]⟩ hb1)
      have B1 := Lib.hid (Below.trans (show Below w.heap.size w (w.alloc (.cells #[.int .i64 s, .slice a n ca] 52)) from (by repeat (first | exact Below.refl _ _ | refine Below.alloc ?_ (by simp; try omega) _ | refine Below.setCell ?_ (by simp; try omega) _))) (hb1.mono (by simp)))
      have S0 : Hid (w.heap.size < w1.heap.size) := by have := hb1.size; simp at this; unfold Hid; omega
      clear hb1
      obtain ⟨p0, p1⟩ := P1.out
      go_wp2_with fail
      refine (toNet_any _ _ ts _ _ _ hn (HA.out _ B1.out) hn').mono ?_
      rintro e w2 ⟨g2, rfl, hg2, hb2, ho2⟩
      have R2 := Lib.hid (row_RT hn ho2)
      have P2 := Lib.hid (P1.out.below hb2)
      have B2 := Lib.hid (two_worldsC B1.out hb2)
      have S1 : Hid (w1.heap.size ≤ w2.heap.size) := hb2.size
      clear hb2 ho2 hg2 p0 p1 P1 B1
      go_wp2_with fail
      refine (toInt64S_any _ l0 _ _ _ hm0 (HB0.out _ B2.out) hm0').mono ?_
      rintro e w3 ⟨g3, rfl, hg3, hb3, ho3⟩
      have R3 := Lib.hid (R2.out.below hb3)
      have I0_3 := Lib.hid (rowI_RI hm0 ho3)
      have P3 := Lib.hid (P2.out.below hb3)
      have B3 := Lib.hid (two_worldsC B2.out hb3)
      have S2 : Hid (w2.heap.size ≤ w3.heap.size) := hb3.size
      clear hb3 ho3 hg3 P2 B2 R2
      obtain ⟨ws, rc, hres⟩ : ∃ ws rc, circleOf s ts l0 = (ws, rc) := ⟨_, _, rfl⟩
      have hlen := circleOf_len s ts l0
      rw [hres] at hlen
      simp only at hlen
      obtain ⟨m, hm⟩ : ∃ m, ws.length = m := ⟨_, rfl⟩
      rw [hm] at hlen
      have HML := Lib.hid hm
      have RES := Lib.hid hres
      clear hres hm
      have HMM : Hid (m ≤ maxLen) := by unfold Hid maxLen; omega
      go_wp2_with fail
      refine (specCircle_any s  _ _ ts l0 _ _ _ _ _ hn R3.out hn' hm0 I0_3.out hm0').mono ?_
      intro e w4 hgv
      rw [RES.out] at hgv
      obtain ⟨aw, cw, rfl, hb4, ho4⟩ := hgv.elim HML
      clear hgv
      have W4 := Lib.hid (Row.of ho4)
      have S3 : Hid (w3.heap.size ≤ w4.heap.size) := hb4.size
      have P4 := Lib.hid (P3.out.below hb4)
      have B4 := Lib.hid (two_worldsC B3.out hb4)
      clear hb4 P3 B3 R3 I0_3 ho4
      obtain ⟨p0, p1⟩ := P4.out
      go_wp2_with fail
      refine (toNet_any _ _ ts _ _ _ hn (HA.out _ B4.out) hn').mono ?_
      rintro e w5 ⟨g5, rfl, hg5, hb5, ho5⟩
      have E5 : Below w4.heap.size w4 (w5.alloc (.cells #[.int .i64 s, .slice (some ⟨g5, 0, none⟩) n n] 26)) := hb5.alloc hb5.size _
      have XO5 := Lib.hid ((Row.of ho5).below ((Below.refl _ _).alloc (Nat.le_refl _) (.cells #[.int .i64 s, .slice (some ⟨g5, 0, none⟩) n n] 26)))
      have X5 : Hid (BoxN (w5.alloc (.cells #[.int .i64 s, .slice (some ⟨g5, 0, none⟩) n n] 26)) w5.heap.size s (.slice (some ⟨g5, 0, none⟩) n n)) := ⟨by simp [go_sem], by simp [go_sem]⟩
      have S4 : Hid (w4.heap.size ≤ w5.heap.size) := hb5.size
      have S5 : Hid (w5.heap.size < (w5.alloc (.cells #[.int .i64 s, .slice (some ⟨g5, 0, none⟩) n n] 26)).heap.size) := by unfold Hid; simp
      have P5 := Lib.hid (P4.out.below E5)
      have W5 := Lib.hid (W4.out.below E5)
      have B5 := Lib.hid (two_worldsC B4.out E5)
      clear E5 hb5 ho5 hg5 p0 p1 P4 W4 B4
      go_wp2_with fail
      refine (toInt64S_any _ l0 _ _ _ hm0 (HB0.out _ B5.out) hm0').mono ?_
      rintro e w6 ⟨g6, rfl, hg6, hb6, ho6⟩
      have Y0_6 := Lib.hid (Row.of ho6)
      have S6 : Hid ((w5.alloc (.cells #[.int .i64 s, .slice (some ⟨g5, 0, none⟩) n n] 26)).heap.size ≤ w6.heap.size) := hb6.size
      have P6 := Lib.hid (P5.out.below hb6)
      have W6 := Lib.hid (W5.out.below hb6)
      have X6 := Lib.hid (X5.out.below hb6)
      have XO6 := Lib.hid (XO5.out.below hb6)
      have B6 := Lib.hid (two_worldsC B5.out hb6)
      clear hb6 ho6 hg6 P5 W5 X5 XO5 B5
      have R6 := Lib.hid (row_RT hn XO6.out.1)
      have I0_6 := Lib.hid (rowI_RI hm0 Y0_6.out.1)
      obtain ⟨x0, x1⟩ := X6.out
      go_wp2_with fail
      refine (implCircle_any s  _ _ ts l0 _ _ _ _ _ hn R6.out hn' hm0 I0_6.out hm0').mono ?_
      intro e w7 hgv
      rw [RES.out] at hgv
      obtain ⟨ag, cg, rfl, hb7, ho7⟩ := hgv.elim HML
      clear hgv
      have G7 := Lib.hid (Row.of ho7)
      have S7 : Hid (w6.heap.size ≤ w7.heap.size) := hb7.size
      have P7 := Lib.hid (P6.out.below hb7)
      have W7 := Lib.hid (W6.out.below hb7)
      have X7 := Lib.hid (X6.out.below hb7)
      have XO7 := Lib.hid (XO6.out.below hb7)
      have Y0_7 := Lib.hid (Y0_6.out.below hb7)
      have B7 := Lib.hid (two_worldsC B6.out hb7)
      clear x0 x1 hb7 P6 W6 X6 XO6 Y0_6 B6 R6 I0_6 ho7
      have Q7 := Lib.hid (own_RI HML G7.out.1)
      have U7 := Lib.hid (own_RI HML W7.out.1)
      go_wp2_with fail
      refine (eqInt64S_any _ _ ws ws _ _ _ _ _ HML HML Q7.out U7.out HMM.out).mono ?_
      rintro e w8 ⟨rfl, hb8⟩
      have P8 := Lib.hid (P7.out.below hb8)
      have W8 := Lib.hid (W7.out.below hb8)
      have X8 := Lib.hid (X7.out.below hb8)
      have XO8 := Lib.hid (XO7.out.below hb8)
      have Y0_8 := Lib.hid (Y0_7.out.below hb8)
      have G8 := Lib.hid (G7.out.below hb8)
      have B8 := Lib.hid (two_worldsC B7.out hb8)
      have S8 : Hid (w7.heap.size ≤ w8.heap.size) := hb8.size
      clear hb8 P7 W7 X7 XO7 Y0_7 G7 B7 Q7 U7
      have R8 := Lib.hid (row_RT hn XO8.out.1)
      obtain ⟨x0, x1⟩ := X8.out
      obtain ⟨p0, p1⟩ := P8.out
      go_wp2_with fail
      go_region_held3 (fun w' => w'.cell? ⟨w.heap.size, 0, none⟩ = some (.int .i64 s) ∧ w'.cell? ⟨w.heap.size, 1, none⟩ = some (.slice a n ca) ∧ w'.cell? ⟨w5.heap.size, 0, none⟩ = some (.int .i64 s) ∧ w'.cell? ⟨w5.heap.size, 1, none⟩ = some (.slice (some ⟨g5, 0, none⟩) n n))
        (first | exact ⟨p0, p1, x0, x1⟩ | exact two_boxes (w := w8.drew) ⟨p0, p1⟩ ⟨x0, x1⟩ hb9 | exact two_boxes (w := w8.drew) ⟨p0, p1⟩ ⟨x0, x1⟩ (two_worlds hb9 hb10))
        (first | (go_at_call 35; refine (toNet_any _ _ ts _ _ _ hn (HA.out _ B8.out.drew) hn').mono ?_; rintro e w9 ⟨g9, rfl, hg9, hb9, ho9⟩) | (go_at_call 38; refine (eqNet_any s s _ _ ts ts _ _ _ _ _ hn hn ((R8.out.below (Below.refl _ _).drew).below hb9) (row_RT hn ho9) HM.out).mono ?_; rintro e w10 ⟨rfl, hb10⟩))
      have E10 : Below w8.heap.size w8 w10 := (Below.refl _ _).drew.trans (two_worlds hb9 hb10)
      have P10 := Lib.hid (P8.out.below E10)
      have W10 := Lib.hid (W8.out.below E10)
      have X10 := Lib.hid (X8.out.below E10)
      have XO10 := Lib.hid (XO8.out.below E10)
      have Y0_10 := Lib.hid (Y0_8.out.below E10)
      have G10 := Lib.hid (G8.out.below E10)
      have B10 := Lib.hid (two_worldsC B8.out E10)
      have S9 : Hid (w8.heap.size ≤ w10.heap.size) := E10.size
      clear E10 hb9 hb10 ho9 hg9 x0 x1 p0 p1 R8 P8 W8 X8 XO8 Y0_8 G8 B8
      go_wp2_with fail
      refine (toInt64S_any _ l0 _ _ _ hm0 (HB0.out _ B10.out) hm0').mono ?_
      rintro e w11 ⟨g11, rfl, hg11, hb11, ho11⟩
      have Z11 := Lib.hid (rowI_RI hm0 ho11)
      have S10 : Hid (w10.heap.size ≤ w11.heap.size) := hb11.size
      have P11 := Lib.hid (P10.out.below hb11)
      have W11 := Lib.hid (W10.out.below hb11)
      have X11 := Lib.hid (X10.out.below hb11)
      have XO11 := Lib.hid (XO10.out.below hb11)
      have Y0_11 := Lib.hid (Y0_10.out.below hb11)
      have G11 := Lib.hid (G10.out.below hb11)
      have B11 := Lib.hid (two_worldsC B10.out hb11)
      clear hb11 ho11 hg11 P10 W10 X10 XO10 Y0_10 G10 B10
      have V11 := Lib.hid (rowI_RI hm0 Y0_11.out.1)
      go_wp2_with fail
      refine (eqInt64S_any _ _ l0 l0 _ _ _ _ _ hm0 hm0 V11.out Z11.out HM0.out).mono ?_
      rintro e w12 ⟨rfl, hb12⟩
      have P12 := Lib.hid (P11.out.below hb12)
      have W12 := Lib.hid (W11.out.below hb12)
      have X12 := Lib.hid (X11.out.below hb12)
      have XO12 := Lib.hid (XO11.out.below hb12)
      have Y0_12 := Lib.hid (Y0_11.out.below hb12)
      have G12 := Lib.hid (G11.out.below hb12)
      have B12 := Lib.hid (two_worldsC B11.out hb12)
      have S11 : Hid (w11.heap.size ≤ w12.heap.size) := hb12.size
      clear hb12 P11 W11 X11 XO11 Y0_11 G11 B11 V11 Z11
      obtain ⟨x0, x1⟩ := X12.out
      go_wp2_with fail
      refine (markNet_any s (some ⟨g5, 0, none⟩) _ _ n n 1 _ XO12.out.1 (by omega) (by omega) (by omega)).mono ?_
      rintro e w13 ⟨rfl, hgr, hom⟩
      have hu := XO12.out.2
      have nn := And.intro S0.out (And.intro S1.out (And.intro S2.out (And.intro S3.out (And.intro S4.out (And.intro S5.out (And.intro S6.out (And.intro S7.out (And.intro S8.out (And.intro S9.out (And.intro S10.out S11.out))))))))))
      have P13 := Lib.hid (P12.out.kept hgr hu (by omega))
      have W13 := Lib.hid (W12.out.kept hgr hu (by omega))
      have X13 := Lib.hid (X12.out.kept hgr hu (by omega))
      have Y0_13 := Lib.hid (Y0_12.out.kept hgr hu (by omega))
      have G13 := Lib.hid (G12.out.kept hgr hu (by omega))
      have B13 : Hid (Below w.heap.size w w13) := below_mark B12.out hgr B12.out.size hu (by omega)
      have S12 : Hid (w12.heap.size ≤ w13.heap.size) := hgr.size
      clear hgr hom nn hu P12 W12 X12 XO12 Y0_12 G12 B12
      clear x0 x1 X13
      go_wp2_with fail
      refine (markInt64S_any (some ⟨g6, 0, none⟩) _ _ m0 m0 (1 + 3 * (n : Int)) _ Y0_13.out.1 (by omega) (by omega) (by omega)).mono ?_
      rintro e w14 ⟨rfl, hgr, hom⟩
      have hu := Y0_13.out.2
      have nn := And.intro S0.out (And.intro S1.out (And.intro S2.out (And.intro S3.out (And.intro S4.out (And.intro S5.out (And.intro S6.out (And.intro S7.out (And.intro S8.out (And.intro S9.out (And.intro S10.out (And.intro S11.out S12.out)))))))))))
      have P14 := Lib.hid (P13.out.kept hgr hu (by omega))
      have W14 := Lib.hid (W13.out.kept hgr hu (by omega))
      have G14 := Lib.hid (G13.out.kept hgr hu (by omega))
      have B14 : Hid (Below w.heap.size w w14) := below_mark B13.out hgr B13.out.size hu (by omega)
      have S13 : Hid (w13.heap.size ≤ w14.heap.size) := hgr.size
      clear hgr hom nn hu P13 W13 Y0_13 G13 B13
      have Q14 := Lib.hid (own_RI HML G14.out.1)
      have U14 := Lib.hid (own_RI HML W14.out.1)
      go_wp2_with fail
      refine (eqInt64S_any _ _ ws ws _ _ _ _ _ HML HML Q14.out U14.out HMM.out).mono ?_
      rintro e w15 ⟨rfl, hb15⟩
      have P15 := Lib.hid (P14.out.below hb15)
      have W15 := Lib.hid (W14.out.below hb15)
      have G15 := Lib.hid (G14.out.below hb15)
      have B15 := Lib.hid (two_worldsC B14.out hb15)
      have S14 : Hid (w14.heap.size ≤ w15.heap.size) := hb15.size
      clear hb15 P14 W14 G14 B14 Q14 U14
      go_wp2_with fail
      refine (markInt64S_any ag _ _ m cg 1 _ G15.out.1 (by omega) (by omega) (by omega)).mono ?_
      rintro e w16 ⟨rfl, hgr, hom⟩
      have hu := G15.out.2
      have nn := And.intro S0.out (And.intro S1.out (And.intro S2.out (And.intro S3.out (And.intro S4.out (And.intro S5.out (And.intro S6.out (And.intro S7.out (And.intro S8.out (And.intro S9.out (And.intro S10.out (And.intro S11.out (And.intro S12.out (And.intro S13.out S14.out)))))))))))))
      have P16 := Lib.hid (P15.out.kept hgr hu (by omega))
      have W16 := Lib.hid (W15.out.kept hgr hu (by omega))
      have B16 : Hid (Below w.heap.size w w16) := below_mark B15.out hgr B15.out.size hu (by omega)
      have S15 : Hid (w15.heap.size ≤ w16.heap.size) := hgr.size
      have M16 : Hid (Row _ _ 2 1 (.slice ag m cg) m ((marksI 1 m).map (Value.int .i64)) w16) := ⟨hom, hu⟩
      clear hgr hom nn hu P15 W15 G15 B15
      have Q16 := Lib.hid (own_RI (marksI_length 1 m) M16.out.1)
      go_wp2_with fail
      refine (heldInt64S_any ag m cg 1 _ Q16.out (by omega) (by omega) (by omega)).mono ?_
      rintro e w' ⟨rfl, rfl⟩
      clear Q16
      obtain ⟨p0, p1⟩ := P16.out
      go_wp2_with fail
      refine (toNet_any _ _ ts _ _ _ hn (HA.out _ B16.out) hn').mono ?_
      rintro e w17 ⟨g17, rfl, hg17, hb17, ho17⟩
      have R17 := Lib.hid (row_RT hn ho17)
      have P17 := Lib.hid (P16.out.below hb17)
      have W17 := Lib.hid (W16.out.below hb17)
      have M17 := Lib.hid (M16.out.below hb17)
      have B17 := Lib.hid (two_worldsC B16.out hb17)
      have S16 : Hid (w16.heap.size ≤ w17.heap.size) := hb17.size
      clear hb17 ho17 hg17 p0 p1 P16 W16 M16 B16
      go_wp2_with fail
      refine (toInt64S_any _ l0 _ _ _ hm0 (HB0.out _ B17.out) hm0').mono ?_
      rintro e w18 ⟨g18, rfl, hg18, hb18, ho18⟩
      have R18 := Lib.hid (R17.out.below hb18)
      have I0_18 := Lib.hid (rowI_RI hm0 ho18)
      have P18 := Lib.hid (P17.out.below hb18)
      have W18 := Lib.hid (W17.out.below hb18)
      have M18 := Lib.hid (M17.out.below hb18)
      have B18 := Lib.hid (two_worldsC B17.out hb18)
      have S17 : Hid (w17.heap.size ≤ w18.heap.size) := hb18.size
      clear hb18 ho18 hg18 P17 W17 M17 B17 R17
      go_wp2_with fail
      refine (implCircle_any s  _ _ ts l0 _ _ _ _ _ hn R18.out hn' hm0 I0_18.out hm0').mono ?_
      intro e w19 hgv
      rw [RES.out] at hgv
      obtain ⟨ah, ch, rfl, hb19, ho19⟩ := hgv.elim HML
      clear hgv
      have H19 := Lib.hid (own_RI HML ho19)
      have S18 : Hid (w18.heap.size ≤ w19.heap.size) := hb19.size
      have P19 := Lib.hid (P18.out.below hb19)
      have W19 := Lib.hid (W18.out.below hb19)
      have M19 := Lib.hid (M18.out.below hb19)
      have B19 := Lib.hid (two_worldsC B18.out hb19)
      clear hb19 ho19 P18 W18 M18 B18 R18 I0_18
      have U19 := Lib.hid (own_RI HML W19.out.1)
      go_wp2_with fail
      refine (eqInt64S_any _ _ ws ws _ _ _ _ _ HML HML H19.out U19.out HMM.out).mono ?_
      rintro e w20 ⟨rfl, hb20⟩
      have P20 := Lib.hid (P19.out.below hb20)
      have W20 := Lib.hid (W19.out.below hb20)
      have M20 := Lib.hid (M19.out.below hb20)
      have B20 := Lib.hid (two_worldsC B19.out hb20)
      have S19 : Hid (w19.heap.size ≤ w20.heap.size) := hb20.size
      clear hb20 P19 W19 M19 B19 H19 U19
      have Q20 := Lib.hid (own_RI (marksI_length 1 m) M20.out.1)
      go_wp2_with fail
      refine (heldInt64S_any ag m cg 1 _ Q20.out (by omega) (by omega) (by omega)).mono ?_
      rintro e w' ⟨rfl, rfl⟩
      go_wp2
      go_ret
      exact ⟨rfl, B20.out⟩
end Go.Proofs.Ytpjgpnaigjdaeaa.fnExactCircleStations
