/-
  The walk of the law FnExactEndOf: it returns true at every network, tubes and stations.
-/
import Derived.Test.YtpjgpnaigjdaeaaEndOf
import Derived.Test.YtpjgpnaigjdaeaaLawSameNet
namespace Go.Proofs.Ytpjgpnaigjdaeaa.fnExactEndOf
open Go.RowKit
set_option maxHeartbeats 1000000 in
theorem walk {w : World} (v : Value) (x : Int × List T3) (hx : NetIn w v x) (v' : Value) (way : List Int) (hw : NumsIn w v' way) (f0 : Int) (_wf0 : (Lit.int .i64 f0).wf = true) :
    Calls Try.prog 7 #[v, v', .int .i64 f0] w fun e w' => e = .returned (.bool true) ∧ Below w.heap.size w w' := by
  obtain ⟨s, ts⟩ := x
  obtain ⟨a, n, ca, rfl, hn, hmax, ha, _, _⟩ := hx
  obtain ⟨b, m, cb, rfl, hm, hmax', hb, _⟩ := hw
  simp only at ha hn
  have HM := Lib.hid hmax
  have HM' := Lib.hid hmax'
  have HA := Lib.hid ha
  have HB := Lib.hid hb
  clear ha hb
  unfold maxLen at hmax hmax'
  by_cases h0 : 1048576 < m
  · go_enter Try.func7, Try.ntmps7
    go_wp2
    go_ret
    exact ⟨rfl, (by repeat (first | exact Below.refl _ _ | refine Below.alloc ?_ (by simp; try omega) _ | refine Below.setCell ?_ (by simp; try omega) _))⟩
  · have hm' : m ≤ 1048576 := by omega
    by_cases h : 1048576 < n
    · have HL := leftOf_less (left := 1048576) (n := (n : Int)) (by omega)
      go_enter Try.func7, Try.ntmps7
      go_wp2_with (go_at_call 34; refine (szNet_any _ _ _ _ _ _ (by omega) (by omega) HM.out).mono ?_; rintro e w1 ⟨rfl, hb1⟩)
      go_ret
      exact ⟨rfl, Below.trans (by repeat (first | exact Below.refl _ _ | refine Below.alloc ?_ (by simp; try omega) _ | refine Below.setCell ?_ (by simp; try omega) _)) (hb1.mono (by simp))⟩
    · have hn' : n ≤ 1048576 := by omega
      have HL := leftOf_enough (left := 1048576) (n := (n : Int)) (by omega)
      go_enter Try.func7, Try.ntmps7
      go_wp2_with fail
      refine (szNet_any _ _ _ _ _ _ (by omega) (by omega) HM.out).mono ?_
      rintro e w1 ⟨rfl, hb1⟩
      have P1 := BoxN.below (pb := w.heap.size) (s := s) (v := .slice a n ca) ⟨by simp [go_sem], by simp [go_sem]⟩ hb1
      have B1 := Lib.hid (Below.trans (show Below w.heap.size w (w.alloc (.cells #[.int .i64 s, .slice a n ca] 52)) from (by repeat (first | exact Below.refl _ _ | refine Below.alloc ?_ (by simp; try omega) _ | refine Below.setCell ?_ (by simp; try omega) _))) (hb1.mono (by simp)))
      have A1 := Lib.hid (HA.out.below B1.out)
      have C1 := Lib.hid (HB.out.below B1.out)
      clear hb1
      obtain ⟨p10, p11⟩ := P1
      go_wp2_with fail
      refine (toNet_any _ _ ts _ _ _ hn A1.out hn').mono ?_
      rintro e w2 ⟨g2, rfl, hg2, hb2, ho2⟩
      have R2 := Lib.hid (row_RT hn ho2)
      have A2 := Lib.hid (A1.out.below hb2)
      have C2 := Lib.hid (C1.out.below hb2)
      have P2 := Lib.hid (BoxN.below (pb := w.heap.size) (s := s) (v := .slice a n ca) ⟨p10, p11⟩ hb2)
      have B2 := Lib.hid (two_worlds B1.out hb2)
      clear hb2 ho2 hg2 p10 p11
      go_wp2_with fail
      refine (toInt64S_any _ way _ _ _ hm C2.out hm').mono ?_
      rintro e w3 ⟨g3, rfl, hg3, hb3, ho3⟩
      have R3 := Lib.hid (R2.out.below hb3)
      have I3 := Lib.hid (rowI_RI hm ho3)
      have A3 := Lib.hid (A2.out.below hb3)
      have C3 := Lib.hid (C2.out.below hb3)
      have P3 := Lib.hid (P2.out.below hb3)
      have B3 := Lib.hid (two_worlds B2.out hb3)
      clear hb3 ho3 hg3
      go_wp2_with fail
      refine (specEndOf_any s f0 _ _ ts way _ _ _ _ _ hn R3.out hn' hm I3.out hm').mono ?_
      rintro e w4 ⟨rfl, hb4⟩
      generalize hres : endOf s ts way f0 = res
      have RES := Lib.hid hres
      clear hres
      have A4 := Lib.hid (A3.out.below hb4)
      have C4 := Lib.hid (C3.out.below hb4)
      have P4 := P3.out.below hb4
      have B4 := Lib.hid (two_worlds B3.out hb4)
      clear hb4
      obtain ⟨p40, p41⟩ := P4
      go_wp2_with fail
      refine (toNet_any _ _ ts _ _ _ hn A4.out hn').mono ?_
      rintro e w5 ⟨g5, rfl, hg5, hb5, ho5⟩
      have R5 := Lib.hid (row_RT hn ho5)
      have E5 : Below w4.heap.size w4 (w5.alloc (.cells #[.int .i64 s, .slice (some ⟨g5, 0, none⟩) n n] 26)) := hb5.alloc hb5.size _
      have R5' := Lib.hid (R5.out.below ((Below.refl _ _).alloc (Nat.le_refl _) (.cells #[.int .i64 s, .slice (some ⟨g5, 0, none⟩) n n] 26)))
      have X5 : Hid (BoxN (w5.alloc (.cells #[.int .i64 s, .slice (some ⟨g5, 0, none⟩) n n] 26)) w5.heap.size s (.slice (some ⟨g5, 0, none⟩) n n)) := ⟨by simp [go_sem], by simp [go_sem]⟩
      have A5 := Lib.hid (A4.out.below E5)
      have C5 := Lib.hid (C4.out.below E5)
      have P5 := Lib.hid (BoxN.below (pb := w.heap.size) (s := s) (v := .slice a n ca) ⟨p40, p41⟩ E5)
      have B5 := Lib.hid (two_worlds B4.out E5)
      clear E5 hb5 ho5 hg5 p40 p41
      go_wp2_with fail
      refine (toInt64S_any _ way _ _ _ hm C5.out hm').mono ?_
      rintro e w6 ⟨g6, rfl, hg6, hb6, ho6⟩
      have I6 := Lib.hid (rowI_RI hm ho6)
      have R6 := Lib.hid (R5'.out.below hb6)
      have A6 := Lib.hid (A5.out.below hb6)
      have C6 := Lib.hid (C5.out.below hb6)
      have P6 := Lib.hid (P5.out.below hb6)
      have X6 := X5.out.below hb6
      have B6 := Lib.hid (two_worlds B5.out hb6)
      clear hb6 ho6 hg6
      obtain ⟨x60, x61⟩ := X6
      go_wp2_with fail
      refine (implEndOf_any s f0 _ _ ts way _ _ _ _ _ hn R6.out hn' hm I6.out hm').mono ?_
      rintro e w7 ⟨rfl, hb7⟩
      rw [RES.out]
      have I7 := Lib.hid (I6.out.below hb7)
      have R7 := Lib.hid (R6.out.below hb7)
      have A7 := Lib.hid (A6.out.below hb7)
      have C7 := Lib.hid (C6.out.below hb7)
      have P7 := P6.out.below hb7
      have X7 := BoxN.below (pb := w5.heap.size) (s := s) (v := .slice (some ⟨g5, 0, none⟩) n n) ⟨x60, x61⟩ hb7
      have B7 := Lib.hid (two_worlds B6.out hb7)
      clear hb7 x60 x61
      obtain ⟨p70, p71⟩ := P7
      obtain ⟨x70, x71⟩ := X7
      go_wp2_with fail
      go_region_held3 (fun w' => w'.cell? ⟨w.heap.size, 0, none⟩ = some (.int .i64 s) ∧ w'.cell? ⟨w.heap.size, 1, none⟩ = some (.slice a n ca) ∧ w'.cell? ⟨w5.heap.size, 0, none⟩ = some (.int .i64 s) ∧ w'.cell? ⟨w5.heap.size, 1, none⟩ = some (.slice (some ⟨g5, 0, none⟩) n n))
        (first | exact ⟨p70, p71, x70, x71⟩ | exact two_boxes (w := w7.drew) ⟨p70, p71⟩ ⟨x70, x71⟩ hb9 | exact two_boxes (w := w7.drew) ⟨p70, p71⟩ ⟨x70, x71⟩ (two_worlds hb9 hb10))
        (first | (go_at_call 35; refine (toNet_any _ _ ts _ _ _ hn (A7.out.below (Below.refl _ _).drew) hn').mono ?_; rintro e w9 ⟨g9, rfl, hg9, hb9, ho9⟩) | (go_at_call 38; refine (eqNet_any s s _ _ ts ts _ _ _ _ _ hn hn ((R7.out.below (Below.refl _ _).drew).below hb9) (row_RT hn ho9) HM.out).mono ?_; rintro e w10 ⟨rfl, hb10⟩))
      have E10 : Below w7.heap.size w7 w10 := (Below.refl _ _).drew.trans (two_worlds hb9 hb10)
      have I10 := Lib.hid (I7.out.below E10)
      have C10 := Lib.hid (C7.out.below E10)
      have B10 := Lib.hid (two_worlds B7.out E10)
      clear E10 hb9 hb10 ho9 hg9
      go_wp2_with fail
      refine (toInt64S_any _ way _ _ _ hm C10.out hm').mono ?_
      rintro e w11 ⟨g11, rfl, hg11, hb11, ho11⟩
      have I11 := Lib.hid (I10.out.below hb11)
      have J11 := Lib.hid (rowI_RI hm ho11)
      have B11 := Lib.hid (two_worlds B10.out hb11)
      clear hb11 ho11 hg11
      go_wp2_with fail
      refine (eqInt64S_any _ _ way way _ _ _ _ _ hm hm I11.out J11.out HM'.out).mono ?_
      rintro e w12 ⟨rfl, hb12⟩
      have hfin := two_worlds B11.out hb12
      go_wp2
      go_ret
      exact ⟨rfl, hfin⟩
end Go.Proofs.Ytpjgpnaigjdaeaa.fnExactEndOf
