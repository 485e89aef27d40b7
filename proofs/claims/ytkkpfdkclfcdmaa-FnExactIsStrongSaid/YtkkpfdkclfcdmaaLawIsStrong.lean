/-
  The walk of the law FnExactIsStrong: it returns true at every input.
-/
import Derived.Test.YtkkpfdkclfcdmaaIsStrong
import Derived.Test.YtkkpfdkclfcdmaaLawRow
namespace Go.Proofs.Ytkkpfdkclfcdmaa.fnExactIsStrong
open Go.RowKit
set_option maxHeartbeats 2000000 in
theorem walk {w : World} (v : Value) (x : Int × List T3) (hx : NetIn w v x) :
    Calls Try.prog 4 #[v] w fun e w' => e = .returned (.bool true) ∧ Below w.heap.size w w' := by
  obtain ⟨s, ts⟩ := x
  obtain ⟨a, n, ca, rfl, hn, hmax, ha, _, _⟩ := hx
  simp only at ha hn
  have HM := Lib.hid hmax
  have HA : Hid (∀ w', Below w.heap.size w w' → RT w' a ts) := fun w' h => ha.below h
  clear ha 
  unfold maxLen at hmax 
  by_cases h : 1048576 < n
  · have HL := leftOf_less (left := 1048576) (n := (n : Int)) (by omega)
    go_enter Try.func4, Try.ntmps4
    go_wp2_with (go_at_call 6; refine (szNet_any _ _ _ _ _ _ (by omega) (by omega) HM.out).mono ?_; rintro e w1 ⟨rfl, hb1⟩)
    go_ret
    exact ⟨rfl, Below.trans (by repeat (first | exact Below.refl _ _ | refine Below.alloc ?_ (by simp; try omega) _ | refine Below.setCell ?_ (by simp; try omega) _)) (hb1.mono (by simp))⟩
  · have hn' : n ≤ 1048576 := by omega
    have HL := leftOf_enough (left := 1048576) (n := (n : Int)) (by omega)
    go_enter Try.func4, Try.ntmps4
    go_wp2_with fail
    refine (szNet_any _ _ _ _ _ _ (by omega) (by omega) HM.out).mono ?_
    rintro e w1 ⟨rfl, hb1⟩
    have P1 := Lib.hid (BoxN.below (pb := w.heap.size) (s := s) (v := .slice a n ca) ⟨by simp [go_sem], by simp [go_sem]⟩ hb1)
    have B1 := Lib.hid (Below.trans (show Below w.heap.size w (w.alloc (.cells #[.int .i64 s, .slice a n ca] 24)) from (by repeat (first | exact Below.refl _ _ | refine Below.alloc ?_ (by simp; try omega) _ | refine Below.setCell ?_ (by simp; try omega) _))) (hb1.mono (by simp)))
    have S0 : Hid (w.heap.size < w1.heap.size) := by have := hb1.size; simp at this; unfold Hid; omega
    clear hb1
    obtain ⟨p0, p1⟩ := P1.out
    go_wp2_with fail
    refine (toNet_any _ _ ts _ _ _ hn (HA.out _ B1.out) hn').mono ?_
    rintro e w2 ⟨g2, rfl, hg2, hb2, ho2⟩
    have R2 := Lib.hid (row_RT hn ho2)
    have P2 := Lib.hid (P1.out.below hb2)
    have B2 := Lib.hid (two_worldsC B1.out hb2)
    have S1 : Hid (w1.heap.size ≤ w2.heap.size) := hb2.size
    clear hb2 ho2 hg2 p0 p1 P1 B1
    go_wp2_with fail
    refine (specIsStrong_any s  _ ts  _ _ _ hn R2.out hn' ).mono ?_
    rintro e w3 ⟨rfl, hb3⟩
    generalize hres : (strongOf s ts) = res
    have RES := Lib.hid hres
    clear hres
    have S2 : Hid (w2.heap.size ≤ w3.heap.size) := hb3.size
    have P3 := Lib.hid (P2.out.below hb3)
    have B3 := Lib.hid (two_worldsC B2.out hb3)
    clear hb3 P2 B2 R2 
    obtain ⟨p0, p1⟩ := P3.out
    go_wp2_with fail
    refine (toNet_any _ _ ts _ _ _ hn (HA.out _ B3.out) hn').mono ?_
    rintro e w4 ⟨g4, rfl, hg4, hb4, ho4⟩
    have E4 : Below w3.heap.size w3 (w4.alloc (.cells #[.int .i64 s, .slice (some ⟨g4, 0, none⟩) n n] 31)) := hb4.alloc hb4.size _
    have XO4 := Lib.hid ((Row.of ho4).below ((Below.refl _ _).alloc (Nat.le_refl _) (.cells #[.int .i64 s, .slice (some ⟨g4, 0, none⟩) n n] 31)))
    have X4 : Hid (BoxN (w4.alloc (.cells #[.int .i64 s, .slice (some ⟨g4, 0, none⟩) n n] 31)) w4.heap.size s (.slice (some ⟨g4, 0, none⟩) n n)) := ⟨by simp [go_sem], by simp [go_sem]⟩
    have S3 : Hid (w3.heap.size ≤ w4.heap.size) := hb4.size
    have S4 : Hid (w4.heap.size < (w4.alloc (.cells #[.int .i64 s, .slice (some ⟨g4, 0, none⟩) n n] 31)).heap.size) := by unfold Hid; simp
    have P4 := Lib.hid (P3.out.below E4)
    have B4 := Lib.hid (two_worldsC B3.out E4)
    clear E4 hb4 ho4 hg4 p0 p1 P3 B3
    have R4 := Lib.hid (row_RT hn XO4.out.1)
    obtain ⟨x0, x1⟩ := X4.out
    go_wp2_with fail
    refine (implIsStrong_any s  _ ts  _ _ _ hn R4.out hn' ).mono ?_
    rintro e w5 ⟨rfl, hb5⟩
    rw [RES.out]
    have S5 : Hid ((w4.alloc (.cells #[.int .i64 s, .slice (some ⟨g4, 0, none⟩) n n] 31)).heap.size ≤ w5.heap.size) := hb5.size
    have P5 := Lib.hid (P4.out.below hb5)
    have X5 := Lib.hid (X4.out.below hb5)
    have XO5 := Lib.hid (XO4.out.below hb5)
    have B5 := Lib.hid (two_worldsC B4.out hb5)
    clear x0 x1 hb5 P4 X4 XO4 B4 R4 
    have R5 := Lib.hid (row_RT hn XO5.out.1)
    obtain ⟨x0, x1⟩ := X5.out
    obtain ⟨p0, p1⟩ := P5.out
    go_wp2_with fail
    go_region_held3 (fun w' => w'.cell? ⟨w.heap.size, 0, none⟩ = some (.int .i64 s) ∧ w'.cell? ⟨w.heap.size, 1, none⟩ = some (.slice a n ca) ∧ w'.cell? ⟨w4.heap.size, 0, none⟩ = some (.int .i64 s) ∧ w'.cell? ⟨w4.heap.size, 1, none⟩ = some (.slice (some ⟨g4, 0, none⟩) n n))
      (first | exact ⟨p0, p1, x0, x1⟩ | exact two_boxes (w := w5.drew) ⟨p0, p1⟩ ⟨x0, x1⟩ hb6 | exact two_boxes (w := w5.drew) ⟨p0, p1⟩ ⟨x0, x1⟩ (two_worlds hb6 hb7))
      (first | (go_at_call 8; refine (toNet_any _ _ ts _ _ _ hn (HA.out _ B5.out.drew) hn').mono ?_; rintro e w6 ⟨g6, rfl, hg6, hb6, ho6⟩) | (go_at_call 11; refine (eqNet_any s s _ _ ts ts _ _ _ _ _ hn hn ((R5.out.below (Below.refl _ _).drew).below hb6) (row_RT hn ho6) HM.out).mono ?_; rintro e w7 ⟨rfl, hb7⟩))
    have E7 : Below w5.heap.size w5 w7 := (Below.refl _ _).drew.trans (two_worlds hb6 hb7)
    have P7 := Lib.hid (P5.out.below E7)
    have X7 := Lib.hid (X5.out.below E7)
    have XO7 := Lib.hid (XO5.out.below E7)
    have B7 := Lib.hid (two_worldsC B5.out E7)
    have S6 : Hid (w5.heap.size ≤ w7.heap.size) := E7.size
    clear E7 hb6 hb7 ho6 hg6 x0 x1 p0 p1 R5 P5 X5 XO5 B5
    go_wp2
    go_ret
    exact ⟨rfl, B7.out⟩
end Go.Proofs.Ytkkpfdkclfcdmaa.fnExactIsStrong
