/-
  The walk of the law FnExactCriticalTubes: it returns true at every input.
-/
import Derived.Test.YtkkpfdkclfcdmaaCritTubes
import Derived.Test.YtkkpfdkclfcdmaaLawRow
namespace Go.Proofs.Ytkkpfdkclfcdmaa.fnExactCriticalTubes
open Go.RowKit
set_option maxHeartbeats 2000000 in
theorem walk {w : World} (v : Value) (x : Int × List T3) (hx : NetIn w v x) :
    Calls Try.prog 5 #[v] w fun e w' => e = .returned (.bool true) ∧ Below w.heap.size w w' := by
  obtain ⟨s, ts⟩ := x
  obtain ⟨a, n, ca, rfl, hn, hmax, ha, _, _⟩ := hx
  simp only at ha hn
  have HM := Lib.hid hmax
  have HA : Hid (∀ w', Below w.heap.size w w' → RT w' a ts) := fun w' h => ha.below h
  clear ha 
  unfold maxLen at hmax 
  by_cases h : 1048576 < n
  · have HL := leftOf_less (left := 1048576) (n := (n : Int)) (by omega)
    go_enter Try.func5, Try.ntmps5
    go_wp2_with (go_at_call 6; refine (szNet_any _ _ _ _ _ _ (by omega) (by omega) HM.out).mono ?_; rintro e w1 ⟨rfl, hb1⟩)
    go_ret
    exact ⟨rfl, Below.trans (by repeat (first | exact Below.refl _ _ | refine Below.alloc ?_ (by simp; try omega) _ | refine Below.setCell ?_ (by simp; try omega) _)) (hb1.mono (by simp))⟩
  · have hn' : n ≤ 1048576 := by omega
    have HL := leftOf_enough (left := 1048576) (n := (n : Int)) (by omega)
    go_enter Try.func5, Try.ntmps5
    go_wp2_with fail
    refine (szNet_any _ _ _ _ _ _ (by omega) (by omega) HM.out).mono ?_
    rintro e w1 ⟨rfl, hb1⟩
    have P1 := Lib.hid (BoxN.below (pb := w.heap.size) (s := s) (v := .slice a n ca) ⟨by simp [go_sem], by simp [go_sem]⟩ hb1)
    have B1 := Lib.hid (Below.trans (show Below w.heap.size w (w.alloc (.cells #[.int .i64 s, .slice a n ca] 24)) from (by repeat (first | exact Below.refl _ _ | refine Below.alloc ?_ (by simp; try omega) _ | refine Below.setCell ?_ (by simp; try omega) _))) (hb1.mono (by simp)))
    have S0 : Hid (w.heap.size < w1.heap.size) := by have := hb1.size; simp at this; unfold Hid; omega
    clear hb1
    obtain ⟨p0, p1⟩ := P1.out
    go_wp2_with fail
    refine (toNet_any _ _ ts _ _ _ hn (HA.out _ B1.out) hn').mono ?_
    rintro e w2 ⟨g2, rfl, hg2, hb2, ho2⟩
    have R2 := Lib.hid (row_RT hn ho2)
    have P2 := Lib.hid (P1.out.below hb2)
    have B2 := Lib.hid (two_worldsC B1.out hb2)
    have S1 : Hid (w1.heap.size ≤ w2.heap.size) := hb2.size
    clear hb2 ho2 hg2 p0 p1 P1 B1
    obtain ⟨ws, rc, hres⟩ : ∃ ws rc, critOf s ts = (ws, rc) := ⟨_, _, rfl⟩
    have hlen := critOf_len s ts
    rw [hres] at hlen
    simp only at hlen
    obtain ⟨m, hm⟩ : ∃ m, ws.length = m := ⟨_, rfl⟩
    rw [hm] at hlen
    have HML := Lib.hid hm
    have RES := Lib.hid hres
    clear hres hm
    have HMM : Hid (m ≤ maxLen) := by unfold Hid maxLen; omega
    go_wp2_with fail
    refine (specCriticalTubes_any s  _ ts  _ _ _ hn R2.out hn' ).mono ?_
    intro e w3 hgv
    rw [RES.out] at hgv
    obtain ⟨aw, cw, rfl, hb3, ho3⟩ := hgv.elim HML
    clear hgv
    have W3 := Lib.hid (Row.of ho3)
    have S2 : Hid (w2.heap.size ≤ w3.heap.size) := hb3.size
    have P3 := Lib.hid (P2.out.below hb3)
    have B3 := Lib.hid (two_worldsC B2.out hb3)
    clear hb3 P2 B2 R2 ho3
    obtain ⟨p0, p1⟩ := P3.out
    go_wp2_with fail
    refine (toNet_any _ _ ts _ _ _ hn (HA.out _ B3.out) hn').mono ?_
    rintro e w4 ⟨g4, rfl, hg4, hb4, ho4⟩
    have E4 : Below w3.heap.size w3 (w4.alloc (.cells #[.int .i64 s, .slice (some ⟨g4, 0, none⟩) n n] 31)) := hb4.alloc hb4.size _
    have XO4 := Lib.hid ((Row.of ho4).below ((Below.refl _ _).alloc (Nat.le_refl _) (.cells #[.int .i64 s, .slice (some ⟨g4, 0, none⟩) n n] 31)))
    have X4 : Hid (BoxN (w4.alloc (.cells #[.int .i64 s, .slice (some ⟨g4, 0, none⟩) n n] 31)) w4.heap.size s (.slice (some ⟨g4, 0, none⟩) n n)) := ⟨by simp [go_sem], by simp [go_sem]⟩
    have S3 : Hid (w3.heap.size ≤ w4.heap.size) := hb4.size
    have S4 : Hid (w4.heap.size < (w4.alloc (.cells #[.int .i64 s, .slice (some ⟨g4, 0, none⟩) n n] 31)).heap.size) := by unfold Hid; simp
    have P4 := Lib.hid (P3.out.below E4)
    have W4 := Lib.hid (W3.out.below E4)
    have B4 := Lib.hid (two_worldsC B3.out E4)
    clear E4 hb4 ho4 hg4 p0 p1 P3 W3 B3
    have R4 := Lib.hid (row_RT hn XO4.out.1)
    obtain ⟨x0, x1⟩ := X4.out
    go_wp2_with fail
    refine (implCriticalTubes_any s  _ ts  _ _ hn R4.out hn' ).mono ?_
    intro e w5 hgv
    rw [RES.out] at hgv
    obtain ⟨ag, cg, rfl, hb5, ho5⟩ := hgv.elim HML
    clear hgv
    have G5 := Lib.hid (Row.of ho5)
    have S5 : Hid ((w4.alloc (.cells #[.int .i64 s, .slice (some ⟨g4, 0, none⟩) n n] 31)).heap.size ≤ w5.heap.size) := hb5.size
    have P5 := Lib.hid (P4.out.below hb5)
    have W5 := Lib.hid (W4.out.below hb5)
    have X5 := Lib.hid (X4.out.below hb5)
    have XO5 := Lib.hid (XO4.out.below hb5)
    have B5 := Lib.hid (two_worldsC B4.out hb5)
    clear x0 x1 hb5 P4 W4 X4 XO4 B4 R4 ho5
    have Q5 := Lib.hid (own_RI HML G5.out.1)
    have U5 := Lib.hid (own_RI HML W5.out.1)
    go_wp2_with fail
    refine (eqInt64S_any _ _ ws ws _ _ _ _ _ HML HML Q5.out U5.out HMM.out).mono ?_
    rintro e w6 ⟨rfl, hb6⟩
    have P6 := Lib.hid (P5.out.below hb6)
    have W6 := Lib.hid (W5.out.below hb6)
    have X6 := Lib.hid (X5.out.below hb6)
    have XO6 := Lib.hid (XO5.out.below hb6)
    have G6 := Lib.hid (G5.out.below hb6)
    have B6 := Lib.hid (two_worldsC B5.out hb6)
    have S6 : Hid (w5.heap.size ≤ w6.heap.size) := hb6.size
    clear hb6 P5 W5 X5 XO5 G5 B5 Q5 U5
    have R6 := Lib.hid (row_RT hn XO6.out.1)
    obtain ⟨x0, x1⟩ := X6.out
    obtain ⟨p0, p1⟩ := P6.out
    go_wp2_with fail
    go_region_held3 (fun w' => w'.cell? ⟨w.heap.size, 0, none⟩ = some (.int .i64 s) ∧ w'.cell? ⟨w.heap.size, 1, none⟩ = some (.slice a n ca) ∧ w'.cell? ⟨w4.heap.size, 0, none⟩ = some (.int .i64 s) ∧ w'.cell? ⟨w4.heap.size, 1, none⟩ = some (.slice (some ⟨g4, 0, none⟩) n n))
      (first | exact ⟨p0, p1, x0, x1⟩ | exact two_boxes (w := w6.drew) ⟨p0, p1⟩ ⟨x0, x1⟩ hb7 | exact two_boxes (w := w6.drew) ⟨p0, p1⟩ ⟨x0, x1⟩ (two_worlds hb7 hb8))
      (first | (go_at_call 8; refine (toNet_any _ _ ts _ _ _ hn (HA.out _ B6.out.drew) hn').mono ?_; rintro e w7 ⟨g7, rfl, hg7, hb7, ho7⟩) | (go_at_call 11; refine (eqNet_any s s _ _ ts ts _ _ _ _ _ hn hn ((R6.out.below (Below.refl _ _).drew).below hb7) (row_RT hn ho7) HM.out).mono ?_; rintro e w8 ⟨rfl, hb8⟩))
    have E8 : Below w6.heap.size w6 w8 := (Below.refl _ _).drew.trans (two_worlds hb7 hb8)
    have P8 := Lib.hid (P6.out.below E8)
    have W8 := Lib.hid (W6.out.below E8)
    have X8 := Lib.hid (X6.out.below E8)
    have XO8 := Lib.hid (XO6.out.below E8)
    have G8 := Lib.hid (G6.out.below E8)
    have B8 := Lib.hid (two_worldsC B6.out E8)
    have S7 : Hid (w6.heap.size ≤ w8.heap.size) := E8.size
    clear E8 hb7 hb8 ho7 hg7 x0 x1 p0 p1 R6 P6 W6 X6 XO6 G6 B6
    obtain ⟨x0, x1⟩ := X8.out
    go_wp2_with fail
    refine (markNet_any s (some ⟨g4, 0, none⟩) _ _ n n 1 _ XO8.out.1 (by omega) (by omega) (by omega)).mono ?_
    rintro e w9 ⟨rfl, hgr, hom⟩
    have hu := XO8.out.2
    have nn := And.intro S0.out (And.intro S1.out (And.intro S2.out (And.intro S3.out (And.intro S4.out (And.intro S5.out (And.intro S6.out S7.out))))))
    have P9 := Lib.hid (P8.out.kept hgr hu (by omega))
    have W9 := Lib.hid (W8.out.kept hgr hu (by omega))
    have X9 := Lib.hid (X8.out.kept hgr hu (by omega))
    have G9 := Lib.hid (G8.out.kept hgr hu (by omega))
    have B9 : Hid (Below w.heap.size w w9) := below_mark B8.out hgr B8.out.size hu (by omega)
    have S8 : Hid (w8.heap.size ≤ w9.heap.size) := hgr.size
    clear hgr hom nn hu P8 W8 X8 XO8 G8 B8
    clear x0 x1 X9
    have Q9 := Lib.hid (own_RI HML G9.out.1)
    have U9 := Lib.hid (own_RI HML W9.out.1)
    go_wp2_with fail
    refine (eqInt64S_any _ _ ws ws _ _ _ _ _ HML HML Q9.out U9.out HMM.out).mono ?_
    rintro e w10 ⟨rfl, hb10⟩
    have P10 := Lib.hid (P9.out.below hb10)
    have W10 := Lib.hid (W9.out.below hb10)
    have G10 := Lib.hid (G9.out.below hb10)
    have B10 := Lib.hid (two_worldsC B9.out hb10)
    have S9 : Hid (w9.heap.size ≤ w10.heap.size) := hb10.size
    clear hb10 P9 W9 G9 B9 Q9 U9
    go_wp2_with fail
    refine (markInt64S_any ag _ _ m cg 1 _ G10.out.1 (by omega) (by omega) (by omega)).mono ?_
    rintro e w11 ⟨rfl, hgr, hom⟩
    have hu := G10.out.2
    have nn := And.intro S0.out (And.intro S1.out (And.intro S2.out (And.intro S3.out (And.intro S4.out (And.intro S5.out (And.intro S6.out (And.intro S7.out (And.intro S8.out S9.out))))))))
    have P11 := Lib.hid (P10.out.kept hgr hu (by omega))
    have W11 := Lib.hid (W10.out.kept hgr hu (by omega))
    have B11 : Hid (Below w.heap.size w w11) := below_mark B10.out hgr B10.out.size hu (by omega)
    have S10 : Hid (w10.heap.size ≤ w11.heap.size) := hgr.size
    have M11 : Hid (Row _ _ 2 1 (.slice ag m cg) m ((marksI 1 m).map (Value.int .i64)) w11) := ⟨hom, hu⟩
    clear hgr hom nn hu P10 W10 G10 B10
    have Q11 := Lib.hid (own_RI (marksI_length 1 m) M11.out.1)
    go_wp2_with fail
    refine (heldInt64S_any ag m cg 1 _ Q11.out (by omega) (by omega) (by omega)).mono ?_
    rintro e w' ⟨rfl, rfl⟩
    clear Q11
    obtain ⟨p0, p1⟩ := P11.out
    go_wp2_with fail
    refine (toNet_any _ _ ts _ _ _ hn (HA.out _ B11.out) hn').mono ?_
    rintro e w12 ⟨g12, rfl, hg12, hb12, ho12⟩
    have R12 := Lib.hid (row_RT hn ho12)
    have P12 := Lib.hid (P11.out.below hb12)
    have W12 := Lib.hid (W11.out.below hb12)
    have M12 := Lib.hid (M11.out.below hb12)
    have B12 := Lib.hid (two_worldsC B11.out hb12)
    have S11 : Hid (w11.heap.size ≤ w12.heap.size) := hb12.size
    clear hb12 ho12 hg12 p0 p1 P11 W11 M11 B11
    go_wp2_with fail
    refine (implCriticalTubes_any s  _ ts  _ _ hn R12.out hn' ).mono ?_
    intro e w13 hgv
    rw [RES.out] at hgv
    obtain ⟨ah, ch, rfl, hb13, ho13⟩ := hgv.elim HML
    clear hgv
    have H13 := Lib.hid (own_RI HML ho13)
    have S12 : Hid (w12.heap.size ≤ w13.heap.size) := hb13.size
    have P13 := Lib.hid (P12.out.below hb13)
    have W13 := Lib.hid (W12.out.below hb13)
    have M13 := Lib.hid (M12.out.below hb13)
    have B13 := Lib.hid (two_worldsC B12.out hb13)
    clear hb13 ho13 P12 W12 M12 B12 R12
    have U13 := Lib.hid (own_RI HML W13.out.1)
    go_wp2_with fail
    refine (eqInt64S_any _ _ ws ws _ _ _ _ _ HML HML H13.out U13.out HMM.out).mono ?_
    rintro e w14 ⟨rfl, hb14⟩
    have P14 := Lib.hid (P13.out.below hb14)
    have W14 := Lib.hid (W13.out.below hb14)
    have M14 := Lib.hid (M13.out.below hb14)
    have B14 := Lib.hid (two_worldsC B13.out hb14)
    have S13 : Hid (w13.heap.size ≤ w14.heap.size) := hb14.size
    clear hb14 P13 W13 M13 B13 H13 U13
    have Q14 := Lib.hid (own_RI (marksI_length 1 m) M14.out.1)
    go_wp2_with fail
    refine (heldInt64S_any ag m cg 1 _ Q14.out (by omega) (by omega) (by omega)).mono ?_
    rintro e w' ⟨rfl, rfl⟩
    go_wp2
    go_ret
    exact ⟨rfl, B14.out⟩
end Go.Proofs.Ytkkpfdkclfcdmaa.fnExactCriticalTubes
