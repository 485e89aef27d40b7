/-
  The walk of the law FnExactSameNet: it returns true at every two networks.
-/
import Derived.Test.YtemeaeafdhgfaaaNetSame
import Derived.Test.YtemeaeafdhgfaaaLawValidNet
import Derived.Deep.RegionWith
namespace Go.Proofs.Ytemeaeafdhgfaaa
open Go.RowKit
theorem two_worlds {a b c : World} (h : Below a.heap.size a b) (k : Below b.heap.size b c) : Below a.heap.size a c := h.trans (k.mono h.size)
theorem two_boxes {w w' : World} {pb qb : Nat} {s r : Int} {u v : Value} (h : BoxN w pb s u) (k : BoxN w qb r v) (hb : Below w.heap.size w w') :
    w'.cell? ⟨pb, 0, none⟩ = some (.int .i64 s) ∧ w'.cell? ⟨pb, 1, none⟩ = some u ∧ w'.cell? ⟨qb, 0, none⟩ = some (.int .i64 r) ∧ w'.cell? ⟨qb, 1, none⟩ = some v :=
  ⟨(h.below hb).1, (h.below hb).2, (k.below hb).1, (k.below hb).2⟩
end Go.Proofs.Ytemeaeafdhgfaaa
namespace Go.Proofs.Ytemeaeafdhgfaaa.fnExactSameNet
open Go.RowKit
set_option maxHeartbeats 1000000 in
theorem walk {w : World} (v : Value) (x : Int × List T3) (hx : NetIn w v x) (v' : Value) (x' : Int × List T3) (hx' : NetIn w v' x') :
    Calls Try.prog 6 #[v, v'] w fun e w' => e = .returned (.bool true) ∧ Below w.heap.size w w' := by
  obtain ⟨s, ts⟩ := x
  obtain ⟨a, n, ca, rfl, hn, hmax, ha, _, _⟩ := hx
  obtain ⟨r, us⟩ := x'
  obtain ⟨b, m, cb, rfl, hm, hmax', hb, _, _⟩ := hx'
  simp only at ha hn hb hm
  have HM := Lib.hid hmax
  have HM' := Lib.hid hmax'
  have HA := Lib.hid ha
  have HB := Lib.hid hb
  clear hmax hmax' ha hb
  by_cases h : 1048576 < n
  · have HL := leftOf_less (left := 1048576) (n := (n : Int)) (by omega)
    go_enter Try.func6, Try.ntmps6
    go_wp2_with (go_at_call 24; refine (szNet_any _ _ _ _ _ _ (by omega) (by omega) HM.out).mono ?_; rintro e w1 ⟨rfl, hb1⟩)
    go_ret
    exact ⟨rfl, Below.trans (by repeat (first | exact Below.refl _ _ | refine Below.alloc ?_ (by simp; try omega) _ | refine Below.setCell ?_ (by simp; try omega) _)) (hb1.mono (by simp; omega))⟩
  · have hn' : n ≤ 1048576 := by omega
    have HL := leftOf_enough (left := 1048576) (n := (n : Int)) (by omega)
    by_cases h' : 1048576 < n + m
    · have HL' := leftOf_less (left := 1048576 - (n : Int)) (n := (m : Int)) (by omega)
      go_enter Try.func6, Try.ntmps6
      go_wp2_with fail
      refine (szNet_any _ _ _ _ _ _ (by omega) (by omega) HM.out).mono ?_
      rintro e w1 ⟨rfl, hb1⟩
      have P1 := BoxN.below (pb := w.heap.size) (s := s) (v := .slice a n ca) ⟨by simp [go_sem], by simp [go_sem]⟩ hb1
      have Q1 := BoxN.below (pb := w.heap.size + 1) (s := r) (v := .slice b m cb) ⟨by simp [go_sem], by simp [go_sem]⟩ hb1
      have B1 := Lib.hid (Below.trans (show Below w.heap.size w ((w.alloc (.cells #[.int .i64 s, .slice a n ca] 29)).alloc (.cells #[.int .i64 r, .slice b m cb] 29)) from (by repeat (first | exact Below.refl _ _ | refine Below.alloc ?_ (by simp; try omega) _ | refine Below.setCell ?_ (by simp; try omega) _))) (hb1.mono (by simp; omega)))
      clear hb1
      obtain ⟨p10, p11⟩ := P1
      obtain ⟨q10, q11⟩ := Q1
      have hm0 : m ≤ maxLen := HM'.out
      unfold maxLen at hm0
      go_wp2_with fail
      refine (szNet_any _ _ _ _ _ _ (by omega) (by omega) HM'.out).mono ?_
      rintro e w2 ⟨rfl, hb2⟩
      have B2 := Lib.hid (B1.out.trans (hb2.mono B1.out.size))
      go_wp2
      go_ret
      exact ⟨rfl, B2.out⟩
    · have hm' : m ≤ 1048576 := by omega
      have HL' := leftOf_enough (left := 1048576 - (n : Int)) (n := (m : Int)) (by omega)
      go_enter Try.func6, Try.ntmps6
      go_wp2_with fail
      refine (szNet_any _ _ _ _ _ _ (by omega) (by omega) HM.out).mono ?_
      rintro e w1 ⟨rfl, hb1⟩
      have P1 := BoxN.below (pb := w.heap.size) (s := s) (v := .slice a n ca) ⟨by simp [go_sem], by simp [go_sem]⟩ hb1
      have Q1 := BoxN.below (pb := w.heap.size + 1) (s := r) (v := .slice b m cb) ⟨by simp [go_sem], by simp [go_sem]⟩ hb1
      have B1 := Lib.hid (Below.trans (show Below w.heap.size w ((w.alloc (.cells #[.int .i64 s, .slice a n ca] 29)).alloc (.cells #[.int .i64 r, .slice b m cb] 29)) from (by repeat (first | exact Below.refl _ _ | refine Below.alloc ?_ (by simp; try omega) _ | refine Below.setCell ?_ (by simp; try omega) _))) (hb1.mono (by simp; omega)))
      clear hb1
      obtain ⟨p10, p11⟩ := P1
      obtain ⟨q10, q11⟩ := Q1
      go_wp2_with fail
      refine (szNet_any _ _ _ _ _ _ (by omega) (by omega) HM'.out).mono ?_
      rintro e w2 ⟨rfl, hb2⟩
      have P2 := BoxN.below (pb := w.heap.size) (s := s) (v := .slice a n ca) ⟨p10, p11⟩ hb2
      have Q2 := BoxN.below (pb := w.heap.size + 1) (s := r) (v := .slice b m cb) ⟨q10, q11⟩ hb2
      have B2 := Lib.hid (B1.out.trans (hb2.mono B1.out.size))
      have A2 := Lib.hid (HA.out.below B2.out)
      have C2 := Lib.hid (HB.out.below B2.out)
      clear hb2 p10 p11 q10 q11
      obtain ⟨p20, p21⟩ := P2
      obtain ⟨q20, q21⟩ := Q2
      have z0 := World.block_lt_of_cell? _ _ p20
      have z1 := World.block_lt_of_cell? _ _ q20
      simp only at z0 z1
      have tok1 : True := trivial
      go_wp2_with fail
      go_region_held3 (fun w' => w'.cell? ⟨w.heap.size, 0, none⟩ = some (.int .i64 s) ∧ w'.cell? ⟨w.heap.size, 1, none⟩ = some (.slice a n ca) ∧ w'.cell? ⟨w.heap.size + 1, 0, none⟩ = some (.int .i64 r) ∧ w'.cell? ⟨w.heap.size + 1, 1, none⟩ = some (.slice b m cb))
        (first | exact ⟨p20, p21, q20, q21⟩ | exact two_boxes (w := w2.drew) ⟨p20, p21⟩ ⟨q20, q21⟩ (two_worlds hb3 hb4) | exact two_boxes (w := w2.drew) ⟨p20, p21⟩ ⟨q20, q21⟩ hb3 | exact two_boxes (w := w2.drew) ⟨p20, p21⟩ ⟨q20, q21⟩ (two_worlds (two_worlds hb3 hb4) hb5))
        (first | (go_at_call 26; have _t := tok1; refine (toNet_any _ _ ts _ _ _ hn (A2.out.below (Below.refl _ _).drew) hn').mono ?_; rintro e w3 ⟨g3, rfl, hg3, hb3, ho3⟩; clear tok1) | (go_at_call 26; refine (toNet_any _ _ us _ _ _ hm ((C2.out.below (Below.refl _ _).drew).below hb3) hm').mono ?_; rintro e w4 ⟨g4, rfl, hg4, hb4, ho4⟩) | (go_at_call 29; refine (specSameNet_any s r _ _ ts us _ _ _ _ _ hn hm ((row_RT hn ho3).below hb4) (row_RT hm ho4) HM.out).mono ?_; rintro e w5 ⟨rfl, hb5⟩))
      have E5 : Below w2.heap.size w2 w5 := (Below.refl _ _).drew.trans (two_worlds (two_worlds hb3 hb4) hb5)
      have A5 := Lib.hid (A2.out.below E5)
      have C5 := Lib.hid (C2.out.below E5)
      have B5 := Lib.hid (two_worlds B2.out E5)
      have P5 := BoxN.below (pb := w.heap.size) (s := s) (v := .slice a n ca) ⟨p20, p21⟩ E5
      have Q5 := BoxN.below (pb := w.heap.size + 1) (s := r) (v := .slice b m cb) ⟨q20, q21⟩ E5
      clear E5 hb3 hb4 hb5 ho3 ho4 hg3 hg4 p20 p21 q20 q21 z0 z1
      obtain ⟨p50, p51⟩ := P5
      go_wp2_with fail
      refine (toNet_any _ _ ts _ _ _ hn A5.out hn').mono ?_
      rintro e w6 ⟨g6, rfl, hg6, hb6, ho6⟩
      have R6 := Lib.hid (row_RT hn ho6)
      have E6 : Below w5.heap.size w5 (w6.alloc (.cells #[.int .i64 s, .slice (some ⟨g6, 0, none⟩) n n] 34)) := hb6.alloc hb6.size _
      have A6 := Lib.hid (A5.out.below E6)
      have C6 := Lib.hid (C5.out.below E6)
      have B6 := Lib.hid (two_worlds B5.out E6)
      have P6 := Lib.hid (BoxN.below (pb := w.heap.size) (s := s) (v := .slice a n ca) ⟨p50, p51⟩ E6)
      have Q6 := Q5.below E6
      have X6 : Hid (BoxN (w6.alloc (.cells #[.int .i64 s, .slice (some ⟨g6, 0, none⟩) n n] 34)) w6.heap.size s (.slice (some ⟨g6, 0, none⟩) n n)) := ⟨by simp [go_sem], by simp [go_sem]⟩
      have R6' := Lib.hid (R6.out.below ((Below.refl _ _).alloc (Nat.le_refl _) (.cells #[.int .i64 s, .slice (some ⟨g6, 0, none⟩) n n] 34)))
      clear E6 hb6 ho6 hg6 p50 p51 Q5
      obtain ⟨q60, q61⟩ := Q6
      go_wp2_with fail
      refine (toNet_any _ _ us _ _ _ hm C6.out hm').mono ?_
      rintro e w7 ⟨g7, rfl, hg7, hb7, ho7⟩
      have R7 := Lib.hid (row_RT hm ho7)
      have A7 := Lib.hid (A6.out.below hb7)
      have C7 := Lib.hid (C6.out.below hb7)
      have B7 := Lib.hid (two_worlds B6.out hb7)
      have P7 := Lib.hid (P6.out.below hb7)
      have Q7 := Lib.hid (BoxN.below (pb := w.heap.size + 1) (s := r) (v := .slice b m cb) ⟨q60, q61⟩ hb7)
      have X7 := X6.out.below hb7
      have S7 := Lib.hid (R6'.out.below hb7)
      have zz := hb7.size
      simp at zz
      clear hb7 ho7 hg7 q60 q61
      obtain ⟨x70, x71⟩ := X7
      have y0 := World.block_lt_of_cell? _ _ x70
      simp only at y0
      go_wp2_with fail
      refine (implSameNet_any s r _ _ ts us _ _ _ _ _ hn hm (S7.out.below ((Below.refl _ _).alloc (Nat.le_refl _) _)) (R7.out.below ((Below.refl _ _).alloc (Nat.le_refl _) _)) HM.out).mono ?_
      rintro e w8 ⟨rfl, hb8⟩
      have Y8 := BoxN.below (pb := w7.heap.size) (s := r) (v := .slice (some ⟨g7, 0, none⟩) m m) ⟨by simp [go_sem], by simp [go_sem]⟩ hb8
      have E8 : Below w7.heap.size w7 w8 := ((Below.refl _ _).alloc (Nat.le_refl _) _).trans (hb8.mono (by simp))
      have A8 := Lib.hid (A7.out.below E8)
      have C8 := Lib.hid (C7.out.below E8)
      have B8 := Lib.hid (two_worlds B7.out E8)
      have P8 := P7.out.below E8
      have Q8 := Lib.hid (Q7.out.below E8)
      have X8 := BoxN.below (pb := w6.heap.size) (s := s) (v := .slice (some ⟨g6, 0, none⟩) n n) ⟨x70, x71⟩ E8
      have S8 := Lib.hid (S7.out.below E8)
      have R8 := Lib.hid (R7.out.below E8)
      clear E8 hb8 x70 x71
      have P8' := Lib.hid P8
      have X8' := Lib.hid X8
      have Y8' := Lib.hid Y8
      clear Y8
      obtain ⟨p80, p81⟩ := P8
      obtain ⟨x80, x81⟩ := X8
      go_wp2_with fail
      go_region_held3 (fun w' => w'.cell? ⟨w.heap.size, 0, none⟩ = some (.int .i64 s) ∧ w'.cell? ⟨w.heap.size, 1, none⟩ = some (.slice a n ca) ∧ w'.cell? ⟨w6.heap.size, 0, none⟩ = some (.int .i64 s) ∧ w'.cell? ⟨w6.heap.size, 1, none⟩ = some (.slice (some ⟨g6, 0, none⟩) n n))
        (first | exact ⟨p80, p81, x80, x81⟩ | exact two_boxes (w := w8.drew) ⟨p80, p81⟩ ⟨x80, x81⟩ hb9 | exact two_boxes (w := w8.drew) ⟨p80, p81⟩ ⟨x80, x81⟩ (two_worlds hb9 hb10))
        (first | (go_at_call 26; refine (toNet_any _ _ ts _ _ _ hn (A8.out.below (Below.refl _ _).drew) hn').mono ?_; rintro e w9 ⟨g9, rfl, hg9, hb9, ho9⟩) | (go_at_call 28; refine (eqNet_any s s _ _ ts ts _ _ _ _ _ hn hn ((S8.out.below (Below.refl _ _).drew).below hb9) (row_RT hn ho9) HM.out).mono ?_; rintro e w10 ⟨rfl, hb10⟩))
      have E10 : Below w8.heap.size w8 w10 := (Below.refl _ _).drew.trans (two_worlds hb9 hb10)
      have C10 := Lib.hid (C8.out.below E10)
      have B10 := Lib.hid (two_worlds B8.out E10)
      have Q10 := Q8.out.below E10
      have Y10 := Y8'.out.below E10
      have R10 := Lib.hid (R8.out.below E10)
      clear E10 hb9 hb10 ho9 hg9 p80 p81 x80 x81
      obtain ⟨q0, q1⟩ := Q10
      obtain ⟨y0', y1⟩ := Y10
      go_wp2_with fail
      go_region_held3 (fun w' => w'.cell? ⟨w.heap.size + 1, 0, none⟩ = some (.int .i64 r) ∧ w'.cell? ⟨w.heap.size + 1, 1, none⟩ = some (.slice b m cb) ∧ w'.cell? ⟨w7.heap.size, 0, none⟩ = some (.int .i64 r) ∧ w'.cell? ⟨w7.heap.size, 1, none⟩ = some (.slice (some ⟨g7, 0, none⟩) m m))
        (first | exact ⟨q0, q1, y0', y1⟩ | exact two_boxes (w := w10.drew) ⟨q0, q1⟩ ⟨y0', y1⟩ hb11 | exact two_boxes (w := w10.drew) ⟨q0, q1⟩ ⟨y0', y1⟩ (two_worlds hb11 hb12))
        (first | (go_at_call 26; refine (toNet_any _ _ us _ _ _ hm (C10.out.below (Below.refl _ _).drew) hm').mono ?_; rintro e w11 ⟨g11, rfl, hg11, hb11, ho11⟩) | (go_at_call 28; refine (eqNet_any r r _ _ us us _ _ _ _ _ hm hm ((R10.out.below (Below.refl _ _).drew).below hb11) (row_RT hm ho11) HM'.out).mono ?_; rintro e w12 ⟨rfl, hb12⟩))
      have hfin := B10.out.drew.trans ((hb11.mono B10.out.size).trans (hb12.mono (Nat.le_trans B10.out.size hb11.size)))
      go_wp2
      go_ret
      exact ⟨rfl, hfin⟩
end Go.Proofs.Ytemeaeafdhgfaaa.fnExactSameNet
