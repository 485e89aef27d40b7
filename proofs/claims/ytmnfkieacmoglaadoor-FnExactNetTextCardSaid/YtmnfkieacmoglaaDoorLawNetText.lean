/-
  The walk of the law FnExactNetText: it returns true at every network, where the library's table of the powers of ten holds what the library's text lays.
-/
import Derived.Test.YtmnfkieacmoglaaDoorNetText
import Derived.Test.YtmnfkieacmoglaaDoorNetTextImpl
import Derived.Test.YtmnfkieacmoglaaDoorLawValidNet
namespace Go.Proofs.YtmnfkieacmoglaaDoor.fnExactNetText
open Go.RowKit Go.ChangeShapes Go.WideShapes
set_option maxHeartbeats 1000000 in
theorem walk (v : Value) (x : Int × List T3) {w : World} (hx : NetIn w v x) (hL : laidMetH Tryd.prog Rows.fnExactNetTextRow.laid w) :
    Calls Tryd.prog 3 #[v] w fun e w' => e = .returned (.bool true) ∧ Below w.heap.size w w' := by
  rw [MakeChecks.laidMetH_plain _ _ _ (by kernel_rfl)] at hL
  have HT : Hid (PowTab w.heap.size w) := pow_of_laid (laidMet.tail (laidMet.tail hL))
  clear hL
  obtain ⟨s, ts⟩ := x
  obtain ⟨a, n, ca, rfl, hn, hmax, ha, _, _⟩ := hx
  simp only at ha hn
  by_cases h : 1048576 < n
  · have HL := leftOf_less (left := 1048576) (n := (n : Int)) (by omega)
    have HM := Lib.hid hmax
    clear hmax ha
    go_enter Tryd.func3, Tryd.ntmps3
    go_wp2_with (go_at_call 4; refine (szNet_any _ _ _ _ _ _ (by omega) (by omega) HM.out).mono ?_; rintro e w1 ⟨rfl, hb1⟩)
    go_ret
    exact ⟨rfl, Below.trans (by repeat (first | exact Below.refl _ _ | refine Below.alloc ?_ (by simp; try omega) _ | refine Below.setCell ?_ (by simp; try omega) _)) (hb1.mono (by simp))⟩
  · have hn' : n ≤ 1048576 := by omega
    have HL := leftOf_enough (left := 1048576) (n := (n : Int)) (by omega)
    have HM := Lib.hid hmax
    have HA := Lib.hid ha
    clear hmax ha
    go_enter Tryd.func3, Tryd.ntmps3
    go_wp2_with fail
    refine (szNet_any _ _ _ _ _ _ (by omega) (by omega) HM.out).mono ?_
    rintro e w1 ⟨rfl, hb1⟩
    have A1 := Lib.hid ((HA.out.below ((Below.refl _ _).alloc (Nat.le_refl _) _)).below hb1)
    have P1 := BoxN.below (pb := w.heap.size) (s := s) (v := .slice a n ca) ⟨by simp [go_sem], by simp [go_sem]⟩ hb1
    have B1 := Lib.hid (Below.trans (show Below w.heap.size w (w.alloc (.cells #[.int .i64 s, .slice a n ca] 24)) from (by repeat (first | exact Below.refl _ _ | refine Below.alloc ?_ (by simp; try omega) _ | refine Below.setCell ?_ (by simp; try omega) _))) (hb1.mono (by simp)))
    clear hb1
    obtain ⟨p10, p11⟩ := P1
    go_wp2_with fail
    refine (toNet_any _ _ ts _ _ _ hn A1.out hn').mono ?_
    rintro e w2 ⟨g2, rfl, hg2, hb2, ho2⟩
    have R2 := Lib.hid (row_RT hn ho2)
    have A2 := Lib.hid (A1.out.below hb2)
    have P2 := BoxN.below (pb := w.heap.size) (s := s) (v := .slice a n ca) ⟨p10, p11⟩ hb2
    have B2 := Lib.hid (B1.out.trans (hb2.mono B1.out.size))
    clear hb2 ho2 p10 p11
    go_wp2_with fail
    refine (specNetText_any _ _ ts _ _ _ hn R2.out hn').mono ?_
    rintro e w3 ⟨rfl, hb3⟩
    generalize hr : netText s ts = r
    have HRR := Lib.hid hr
    clear hr
    have A3 := Lib.hid (A2.out.below hb3)
    have P3 := BoxN.below P2 hb3
    have B3 := Lib.hid (B2.out.trans (hb3.mono B2.out.size))
    clear hb3 P2
    obtain ⟨p30, p31⟩ := P3
    go_wp2_with fail
    refine (toNet_any _ _ ts _ _ _ hn A3.out hn').mono ?_
    rintro e w4 ⟨g4, rfl, hg4, hb4, ho4⟩
    have R4 := Lib.hid (row_RT hn ho4)
    have A4 := Lib.hid (A3.out.below hb4)
    have P4 := BoxN.below (pb := w.heap.size) (s := s) (v := .slice a n ca) ⟨p30, p31⟩ hb4
    have B4 := Lib.hid (B3.out.trans (hb4.mono B3.out.size))
    clear hb4 ho4 p30 p31
    go_wp2_with fail
    refine (implNetText_any _ _ ts _ _ _ hn (R4.out.below ((Below.refl _ _).alloc (Nat.le_refl _) _)) hn' (HT.out.on (B4.out.alloc B4.out.size _)) (Nat.le_trans B4.out.size (by simp))).mono ?_
    rintro e w5 ⟨rfl, hb5⟩
    rw [HRR.out]
    have D5 : Below w4.heap.size w4 w5 := ((Below.refl _ _).alloc (Nat.le_refl _) _).trans (hb5.mono (by simp))
    have R5 := Lib.hid (R4.out.below D5)
    have A5 := Lib.hid (A4.out.below D5)
    have P5 := P4.below D5
    have Q5 := BoxN.below (pb := w4.heap.size) (s := s) (v := .slice (some ⟨g4, 0, none⟩) n n) ⟨by simp [go_sem], by simp [go_sem]⟩ hb5
    have B5 := Lib.hid (B4.out.trans (D5.mono B4.out.size))
    clear D5 hb5 P4
    obtain ⟨p50, p51⟩ := P5
    obtain ⟨q50, q51⟩ := Q5
    have z0 := World.block_lt_of_cell? _ _ p50
    have z1 := World.block_lt_of_cell? _ _ q50
    simp only at z0 z1
    go_wp2_with fail
    go_region_held3 (fun w' => w'.cell? ⟨w.heap.size, 0, none⟩ = some (.int .i64 s) ∧ w'.cell? ⟨w.heap.size, 1, none⟩ = some (.slice a n ca) ∧ w'.cell? ⟨w4.heap.size, 0, none⟩ = some (.int .i64 s) ∧ w'.cell? ⟨w4.heap.size, 1, none⟩ = some (.slice (some ⟨g4, 0, none⟩) n n))
      (first | exact ⟨p50, p51, q50, q51⟩ | (exact ⟨(hb6.cell (p := ⟨_, _, none⟩) z0).trans p50, (hb6.cell (p := ⟨_, _, none⟩) z0).trans p51, (hb6.cell (p := ⟨_, _, none⟩) z1).trans q50, (hb6.cell (p := ⟨_, _, none⟩) z1).trans q51⟩) | (exact ⟨(hb7.cell (p := ⟨_, _, none⟩) (Nat.lt_of_lt_of_le z0 hb6.size)).trans ((hb6.cell (p := ⟨_, _, none⟩) z0).trans p50), (hb7.cell (p := ⟨_, _, none⟩) (Nat.lt_of_lt_of_le z0 hb6.size)).trans ((hb6.cell (p := ⟨_, _, none⟩) z0).trans p51), (hb7.cell (p := ⟨_, _, none⟩) (Nat.lt_of_lt_of_le z1 hb6.size)).trans ((hb6.cell (p := ⟨_, _, none⟩) z1).trans q50), (hb7.cell (p := ⟨_, _, none⟩) (Nat.lt_of_lt_of_le z1 hb6.size)).trans ((hb6.cell (p := ⟨_, _, none⟩) z1).trans q51)⟩))
      (first | (go_at_call 6; refine (toNet_any _ _ ts _ _ _ hn (A5.out.below (Below.refl _ _).drew) hn').mono ?_; rintro e w6 ⟨g6, rfl, hg6, hb6, ho6⟩) | (go_at_call 8; refine (eqNet_any s s _ _ ts ts _ _ _ _ _ hn hn ((R5.out.below (Below.refl _ _).drew).below hb6) (row_RT hn ho6) HM.out).mono ?_; rintro e w7 ⟨rfl, hb7⟩))
    have hfin := B5.out.drew.trans ((hb6.mono B5.out.size).trans (hb7.mono (Nat.le_trans B5.out.size hb6.size)))
    go_wp2
    go_ret
    exact ⟨rfl, hfin⟩
end Go.Proofs.YtmnfkieacmoglaaDoor.fnExactNetText
