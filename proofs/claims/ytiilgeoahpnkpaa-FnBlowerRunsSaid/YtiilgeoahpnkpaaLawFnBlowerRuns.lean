/-
  The walk of the law FnBlowerRuns: it returns true at every input.
-/
import Derived.Test.YtiilgeoahpnkpaaBlowDr3
import Derived.Test.YtiilgeoahpnkpaaBlow9
import Derived.Test.YtiilgeoahpnkpaaBlowFr
import Derived.Test.YtiilgeoahpnkpaaLaws6
namespace Go.Proofs.Ytiilgeoahpnkpaa.fnBlowerRuns
open Go.RowKit

set_option maxRecDepth 100000 in
set_option maxHeartbeats 32000000 in
theorem walk {w : World} (v0 : Value) (x0 : Unit) (hw0 : CodeArg w v0 x0) :
    Calls Try.prog 4 #[v0] w fun e w' => e = .returned (.bool true) ∧ Below w.heap.size w w' := by
  obtain ⟨_, a, n, c, rfl, hn, hc⟩ := hw0
  have HC : Hid (∀ W, Below w.heap.size w W → CodeIn W.heap.size a n W) := fun W hB => hc.later hB
  clear hc
  by_cases hbig : 4096 < n
  · have FB := f6big_any a n c w hn
    rw [decide_eq_true hbig] at FB
    go_enter Try.func4, Try.ntmps4
    go_wp2_with (go_at_call 16; refine FB.mono ?_; rintro e w' ⟨rfl, rfl⟩)
    go_ret
    exact ⟨rfl, Below.refl _ _⟩
  have FB := f6big_any a n c w hn
  rw [decide_eq_false hbig] at FB
  have hs1 : n ≤ 4096 := by omega
  clear hbig
  have BB : Hid (Below w.heap.size w w) := Below.refl _ _
  go_enter Try.func4, Try.ntmps4
  go_wp2_with (go_at_call 16; refine FB.mono ?_; rintro e w' ⟨rfl, rfl⟩)
  clear FB
  refine (drawRun_any a n c _ (HC.out _ BB.out) hs1).mono ?_
  rintro e w1 ⟨ts, l, f, a1, n1, c1, a2, n2, c2, rfl, HN1, hn1, WF1, HN2, hn2, WF2, hf, hbx, hr1, hr2⟩
  have hfw : (Lit.int .i64 f).wf = true := wf_i64 (by omega) (by omega)
  replace BB := Lib.hid (two_worlds BB.out hbx)
  have FS := Lib.hid hr1
  have FL := Lib.hid hr2
  clear hbx hr1 hr2
  have hm1 : n1 ≤ 1048576 := by omega
  have hm2 : n2 ≤ 1048576 := by omega
  have HW := Lib.hid (runs_ways ts l f)
  obtain ⟨x, y, b, hL⟩ : ∃ x y b, longOf ts l f = (x, y, b) := ⟨_, _, _, rfl⟩
  obtain ⟨s, b2, hS⟩ : ∃ s b2, startOf ts l f = (s, b2) := ⟨_, _, rfl⟩
  obtain ⟨h, b3, hH⟩ : ∃ h b3, hourOf ts l f = (h, b3) := ⟨_, _, rfl⟩
  have HL := Lib.hid hL
  have HS := Lib.hid hS
  have HH := Lib.hid hH
  clear hL hS hH
  go_wp2_with fail
  refine (implLongestRun_any _ ts HN1 FS.out hm1 WF1 l HN2 FL.out hm2 WF2 f hfw).mono ?_
  rintro e w2 ⟨rfl, hbx⟩
  rw [HL.out]
  dsimp only
  replace FS := Lib.hid (FS.out.below hbx)
  replace FL := Lib.hid (FL.out.below hbx)
  replace BB := Lib.hid (two_worlds BB.out hbx)
  clear hbx
  go_wp2_with fail
  refine (specLongestRun_any _ ts HN1 FS.out hm1 WF1 l HN2 FL.out hm2 WF2 f hfw).mono ?_
  rintro e w3 ⟨rfl, hbx⟩
  rw [HL.out]
  dsimp only
  replace FS := Lib.hid (FS.out.below hbx)
  replace FL := Lib.hid (FL.out.below hbx)
  replace BB := Lib.hid (two_worlds BB.out hbx)
  clear hbx
  go_wp2_with fail
  refine (implStartsOfBlower_any _ ts HN1 FS.out hm1 WF1 l HN2 FL.out hm2 WF2 f hfw).mono ?_
  rintro e w4 ⟨rfl, hbx⟩
  rw [HS.out]
  dsimp only
  replace FS := Lib.hid (FS.out.below hbx)
  replace FL := Lib.hid (FL.out.below hbx)
  replace BB := Lib.hid (two_worlds BB.out hbx)
  clear hbx
  go_wp2_with fail
  refine (specStartsOfBlower_any _ ts HN1 FS.out hm1 WF1 l HN2 FL.out hm2 WF2 f hfw).mono ?_
  rintro e w5 ⟨rfl, hbx⟩
  rw [HS.out]
  dsimp only
  replace FS := Lib.hid (FS.out.below hbx)
  replace FL := Lib.hid (FL.out.below hbx)
  replace BB := Lib.hid (two_worlds BB.out hbx)
  clear hbx
  go_wp2_with fail
  refine (implHoursOfBlower_any _ ts HN1 FS.out hm1 WF1 l HN2 FL.out hm2 WF2 f hfw).mono ?_
  rintro e w6 ⟨rfl, hbx⟩
  rw [HH.out]
  dsimp only
  replace FS := Lib.hid (FS.out.below hbx)
  replace FL := Lib.hid (FL.out.below hbx)
  replace BB := Lib.hid (two_worlds BB.out hbx)
  clear hbx
  go_wp2_with fail
  refine (specHoursOfBlower_any _ ts HN1 FS.out hm1 WF1 l HN2 FL.out hm2 WF2 f hfw).mono ?_
  rintro e w7 ⟨rfl, hbx⟩
  rw [HH.out]
  dsimp only
  replace FS := Lib.hid (FS.out.below hbx)
  replace FL := Lib.hid (FL.out.below hbx)
  replace BB := Lib.hid (two_worlds BB.out hbx)
  clear hbx
  rcases HW.out with ⟨q, hq, e1, e2, e3⟩ | ⟨e1, e2, e3⟩ | ⟨k, X, Y, s', h', rfl, hk4, e1, e2, e3, p1, p2, p3, p4, p5, p6, p7, p8⟩
  · obtain ⟨⟨k1, k2⟩, hz⟩ | ⟨⟨k1, k2⟩, hz⟩ := eq_ways q 0
    · exact absurd hz hq
    rw [HL.out] at e1; injection e1 with i1 i2; injection i2 with i2 i3
    rw [HS.out] at e2; injection e2 with i4 i5
    rw [HH.out] at e3; injection e3 with i6 i7
    subst i1 i2 i3 i4 i5 i6 i7
    clear hq hz HL HS HH HW
    go_wp2
    go_ret
    exact ⟨rfl, BB.out⟩
  · rw [HL.out] at e1; injection e1 with i1 i2; injection i2 with i2 i3
    rw [HS.out] at e2; injection e2 with i4 i5
    rw [HH.out] at e3; injection e3 with i6 i7
    subst i1 i2 i3 i4 i5 i6 i7
    clear HL HS HH HW
    go_wp2
    go_ret
    exact ⟨rfl, BB.out⟩
  · rw [HL.out] at e1; injection e1 with i1 i2; injection i2 with i2 i3
    rw [HS.out] at e2; injection e2 with i4 i5
    rw [HH.out] at e3; injection e3 with i6 i7
    subst i1 i2 i3 i4 i5 i6 i7
    have HP8 := Lib.hid p8
    have HN2' : Hid (l.length = n2) := HN2
    have hn24 : X + Y ≤ n2 := by rw [← HN2.out]; exact p5
    obtain ⟨⟨k1, k2⟩, hz⟩ | ⟨⟨k1, k2⟩, hz⟩ := eq_ways s 0
    · omega
    obtain ⟨⟨k3, k4⟩, hz2⟩ | ⟨⟨k3, k4⟩, hz2⟩ := eq_ways h 0
    · omega
    have d1 : ¬ h < s := by omega
    have d2 : ¬ (X : Int) < 0 := by omega
    have d3 : ¬ (Y : Int) < 1 := by omega
    have d4 : ¬ (n2 : Int) < (X : Int) + (Y : Int) := by omega
    have d5 : ¬ h < (Y : Int) := by omega
    have hwr := wrI (x := (X : Int) + (Y : Int)) (by omega)
    clear hz hz2 p8 HL HS HH HW p5 p6
    go_wp2_with fail
    go_loop [20] (fun iv => ∃ j : Nat, j ≤ Y ∧ iv = .int .i64 ((X + j : Nat) : Int)) (fun iv => X + Y - (intOf iv).toNat)
    case atStart => exact ⟨0, by omega, rfl⟩
    case round =>
      obtain ⟨j, hj, rfl⟩ := hrel
      obtain ⟨i, hi⟩ : ∃ i, X + j = i := ⟨_, rfl⟩
      rw [hi]
      by_cases hlt : j < Y
      · have hil : i < l.length := by rw [HN2'.out]; omega
        obtain ⟨z, hzz, hz16, hzb⟩ := HP8.out i (by omega) (by omega)
        obtain ⟨bb, ob, e0, hbl, x1⟩ := FL.out.at_ i hil
        injection e0 with e0
        injection e0 with e01 e02
        subst e01 e02
        rw [← getD_atI hil, hzz, Nat.zero_add] at x1
        have hbit := hasI z k (by omega)
        rw [hzb] at hbit
        have hbit2 : (bits BinOp.and IntKind.i64 ((z : Int) / 2 ^ k) 1 != 1) = false := by simp only [bne, hbit]; rfl
        have hi0 : (0 : Int) ≤ (i : Int) := by omega
        have hi1 : (i : Int) < (n2 : Int) := by omega
        have hi2 : (i : Int) < (X : Int) + (Y : Int) := by omega
        have hi3 : i < X + Y := by omega
        have HI := Lib.hid hi
        clear hzz hzb hil hbit hi
        go_wp2
        go_round
        case rel => exact ⟨j + 1, by omega, by have := HI.out; rw [show X + (j + 1) = i + 1 by omega]; go_num⟩
        case measure => have := HI.out; simp [intOf]; omega
      · have hi2 : ¬ (i : Int) < (X : Int) + (Y : Int) := by omega
        clear hi
        go_wp2
        go_ret
        exact ⟨rfl, BB.out⟩
end Go.Proofs.Ytiilgeoahpnkpaa.fnBlowerRuns
