/-
  The walk of the law FnRoutes: it returns true at every input.
-/
import Derived.Test.YtenjigifjkfiaaaA2Net
import Derived.Test.YtenjigifjkfiaaaA2Walk
import Derived.Test.YtenjigifjkfiaaaA2List
import Derived.Test.YtenjigifjkfiaaaRouteMath3
import Derived.Test.YtenjigifjkfiaaaCodeArg
import Derived.Test.YtenjigifjkfiaaaEndOf
import Derived.Test.YtenjigifjkfiaaaSetWayImpl
import Derived.Test.YtenjigifjkfiaaaTurnsFor
import Derived.Test.YtenjigifjkfiaaaRouteOf
import Derived.Test.YtenjigifjkfiaaaCircle
import Derived.Deep.RegionHeld3
import Derived.Deep.QuietTactic
namespace Go.Proofs.Ytenjigifjkfiaaa.fnRoutes
open Go.RowKit

set_option maxRecDepth 100000 in
set_option maxHeartbeats 64000000 in
theorem walk {w : World} (v0 : Value) (x0 : Unit) (hw0 : CodeArg w v0 x0) (v1 : Value) (x1 : Unit) (hw1 : CodeArg w v1 x1) :
    Calls Try.prog 3 #[v0, v1] w fun e w' => e = .returned (.bool true) ∧ Below w.heap.size w w' := by
  obtain ⟨_, a, n, c, rfl, hn, hc⟩ := hw0
  obtain ⟨_, b, m, d, rfl, hm, hd⟩ := hw1
  have HC : Hid (∀ W, Below w.heap.size w W → CodeIn W.heap.size a n W) := fun W hB => hc.later hB
  have HD : Hid (∀ W, Below w.heap.size w W → CodeIn W.heap.size b m W) := fun W hB => hd.later hB
  clear hc hd
  have FB := a2Long_any a b n m c d w hn hm
  by_cases hbig : (decide (3000 < n) || decide (3000 < m)) = true
  · rw [hbig] at FB
    go_enter Try.func3, Try.ntmps3
    go_wp2_with (go_at_call 8; refine FB.mono ?_; rintro e w' ⟨rfl, rfl⟩)
    go_ret
    exact ⟨rfl, Below.refl _ _⟩
  rw [Bool.not_eq_true] at hbig
  rw [hbig] at FB
  have hs1 : n ≤ 3000 := by simp at hbig; omega
  have hs2 : m ≤ 3000 := by simp at hbig; omega
  clear hbig hn hm
  have BB : Hid (Below w.heap.size w w) := Below.refl _ _
  go_enter Try.func3, Try.ntmps3
  go_wp2_with (go_at_call 8; refine FB.mono ?_; rintro e w' ⟨rfl, rfl⟩)
  clear FB
  refine (a2Net_any a n c _ (HC.out _ BB.out) (by omega)).mono ?_
  rintro e w1 ⟨s, ts, ao, k, ca, rfl, hnet, hl, hk14, hb1, ho1⟩
  obtain ⟨S, rfl⟩ : ∃ S : Nat, s = (S : Int) := ⟨s.toNat, by have := (netB_parts hnet).1; omega⟩
  have hS2 : 2 ≤ S := by have := (netB_parts hnet).1; omega
  have hS10 : S ≤ 10 := by have := (netB_parts hnet).2.1; omega
  have HL := hl
  replace BB := Lib.hid (two_worlds BB.out hb1)
  have FS : Hid (RT w1 ao ts) := rowO_RTR hl ho1
  have TRS : Hid (∀ W, Below (w1.alloc (.cells #[.int .i64 (S : Int), .slice ao k ca] 26)).heap.size (w1.alloc (.cells #[.int .i64 (S : Int), .slice ao k ca] 26)) W → Below w.heap.size w W) := fun W hW => two_worlds (two_worlds BB.out (show Below w1.heap.size w1 (w1.alloc (.cells #[.int .i64 (S : Int), .slice ao k ca] 26)) from (by repeat (first | exact Below.refl _ _ | refine Below.alloc ?_ (by simp; try omega) _ | refine Below.setCell ?_ (by simp; try omega) _)))) hW
  have BX : Hid (∀ W, Below (w1.alloc (.cells #[.int .i64 (S : Int), .slice ao k ca] 26)).heap.size (w1.alloc (.cells #[.int .i64 (S : Int), .slice ao k ca] 26)) W → W.cell? ⟨w1.heap.size, 0, none⟩ = some (.int .i64 (S : Int)) ∧ W.cell? ⟨w1.heap.size, 1, none⟩ = some (.slice ao k ca)) := fun W hW => ⟨(hW.cell (p := ⟨w1.heap.size, 0, none⟩) (by simp)).trans (by simp [go_sem]), (hW.cell (p := ⟨w1.heap.size, 1, none⟩) (by simp)).trans (by simp [go_sem])⟩
  have FSV : Hid (∀ W, Below (w1.alloc (.cells #[.int .i64 (S : Int), .slice ao k ca] 26)).heap.size (w1.alloc (.cells #[.int .i64 (S : Int), .slice ao k ca] 26)) W → RT W ao ts) := fun W hW => FS.out.below (two_worlds (show Below w1.heap.size w1 (w1.alloc (.cells #[.int .i64 (S : Int), .slice ao k ca] 26)) from (by repeat (first | exact Below.refl _ _ | refine Below.alloc ?_ (by simp; try omega) _ | refine Below.setCell ?_ (by simp; try omega) _))) hW)
  have SE := a2Setting_any b m d S ao ts k ca (w1.alloc (.cells #[.int .i64 (S : Int), .slice ao k ca] 26)) (HD.out _ (TRS.out _ (Below.refl _ _))) (by omega) HL (FSV.out _ (Below.refl _ _)) hnet
  have AW : Hid (∀ W, Below (w1.alloc (.cells #[.int .i64 (S : Int), .slice ao k ca] 26)).heap.size (w1.alloc (.cells #[.int .i64 (S : Int), .slice ao k ca] 26)) W → Calls Try.prog 11 #[.slice b m d, .agg #[.int .i64 (S : Int), .slice ao k ca]] W (GivesNs (fun l => simpleB ts l = true ∧ l.length ≤ 4) W)) := fun W hW => a2Walk_any b m d S ao ts k ca W (HD.out _ (TRS.out _ hW)) (by omega) HL (FSV.out _ hW) hnet
  clear hb1 ho1 hl FS hnet
  go_wp2_with fail
  refine SE.mono ?_
  clear SE
  rintro e w2 ⟨set, bs, ms, cs, rfl, hset, HMS, hb2, ho2⟩
  have FSET : Hid (∀ W, Below w2.heap.size w2 W → RI W (some ⟨bs, 0, none⟩) set) := fun W hW => (rowI_RI HMS ho2).below hW
  have TR2 : Hid (∀ W, Below w2.heap.size w2 W → Below (w1.alloc (.cells #[.int .i64 (S : Int), .slice ao k ca] 26)).heap.size (w1.alloc (.cells #[.int .i64 (S : Int), .slice ao k ca] 26)) W) := fun W hW => two_worlds hb2 hW
  have hmS : ms = S := by have := (setB_parts hset).2.1; rw [HMS.out] at this; omega
  subst hmS
  obtain ⟨y0, y1⟩ := BX.out _ hb2
  have AW2 := AW.out _ hb2
  have HSET := Lib.hid hset
  clear hb2 ho2 hset AW
  go_wp2_with fail
  refine AW2.mono ?_
  clear AW2
  rintro e w3 ⟨way, bw, q, cw, rfl, ⟨hsim, hq4⟩, HQ, hb3, ho3⟩
  have FWAY : Hid (∀ W, Below w3.heap.size w3 W → RI W (some ⟨bw, 0, none⟩) way) := fun W hW => (rowI_RI HQ ho3).below hW
  have TR3 : Hid (∀ W, Below w3.heap.size w3 W → Below w2.heap.size w2 W) := fun W hW => two_worlds hb3 hW
  rw [HQ.out] at hq4
  have HSIM := Lib.hid hsim
  obtain ⟨z0, z1⟩ := BX.out _ (TR2.out _ hb3)
  have SW := implSetWay_any (ms : Int) ao (some ⟨bs, 0, none⟩) (some ⟨bw, 0, none⟩) ts set way k ca ms cs q cw w3 HL (FSV.out _ (TR2.out _ hb3)) (by omega) HMS (FSET.out _ hb3) (by omega) HQ (FWAY.out _ (Below.refl _ _)) (by omega)
  rw [setWay_ok HSET.out hsim] at SW
  obtain ⟨set2, hset2⟩ : ∃ set2, setBy set (nds ts way way.length) = set2 := ⟨_, rfl⟩
  have HS2 : Hid (setB (ms : Int) ts set2 = true) := by unfold Hid; rw [← hset2]; exact setBy_ok HSET.out hsim
  have HT2 : Hid (turnsOf (ms : Int) ts set2 way = (0, 0)) := by unfold Hid; rw [← hset2]; exact turns_set HSET.out hsim
  have HE2 := Lib.hid hset2
  rw [hset2] at SW
  have HM2 : Hid (set2.length = ms) := by have := (setB_parts HS2.out).2.1; unfold Hid; omega
  clear y0 y1 hb3 ho3 hsim hset2
  go_wp2_with fail
  refine SW.mono ?_
  intro e w4 hgv
  obtain ⟨a4, c4, rfl, hb4, ho4⟩ := GivesL.elim HM2 hgv
  have FS2 : Hid (∀ W, Below w4.heap.size w4 W → RI W a4 set2) := fun W hW => (rowI_RI HM2 ho4).below hW
  have TR4 : Hid (∀ W, Below w4.heap.size w4 W → Below w3.heap.size w3 W) := fun W hW => two_worlds hb4 hW
  obtain ⟨y0, y1⟩ := BX.out _ (TR2.out _ (TR3.out _ hb4))
  have T1 := implTurnsFor_any (ms : Int) ao (some ⟨bs, 0, none⟩) (some ⟨bw, 0, none⟩) ts set way k ca ms cs q cw w4 HL (FSV.out _ (TR2.out _ (TR3.out _ hb4))) (by omega) HMS (FSET.out _ (TR3.out _ hb4)) (by omega) HQ (FWAY.out _ hb4) (by omega)
  obtain ⟨kk, hkk, hturn⟩ := turns_ok HSET.out HSIM.out
  rw [hturn] at T1
  rw [HQ.out] at hkk
  clear z0 z1 hb4 ho4 hgv SW hturn
  dsimp only at T1
  go_wp2_with fail
  refine T1.mono ?_
  rintro e w5 ⟨rfl, hb5⟩
  have B5 := Lib.hid hb5
  obtain ⟨z0, z1⟩ := BX.out _ (TR2.out _ (TR3.out _ (TR4.out _ hb5)))
  have T2 := implTurnsFor_any (ms : Int) ao a4 (some ⟨bw, 0, none⟩) ts set2 way k ca ms c4 q cw w5 HL (FSV.out _ (TR2.out _ (TR3.out _ (TR4.out _ hb5)))) (by omega) HM2 (FS2.out _ hb5) (by omega) HQ (FWAY.out _ (TR4.out _ hb5)) (by omega)
  rw [HT2.out] at T2
  dsimp only at T2
  clear T1 hb5 y0 y1 HT2
  go_wp2_with fail
  refine T2.mono ?_
  rintro e w6 ⟨rfl, hb6⟩
  have B6 := Lib.hid (two_worlds B5.out hb6)
  obtain ⟨y0, y1⟩ := BX.out _ (TR2.out _ (TR3.out _ (TR4.out _ B6.out)))
  have VS := specValidSetting_any (ms : Int) ao a4 ts set2 k ca ms c4 w6 HL (FSV.out _ (TR2.out _ (TR3.out _ (TR4.out _ B6.out)))) (by omega) HM2 (FS2.out _ B6.out) (by omega)
  rw [HS2.out] at VS
  have hkk0 : (0 : Int) ≤ (kk : Int) := by omega
  have hkk1 : (kk : Int) ≤ (q : Int) := by omega
  clear T2 hb6 B5 z0 z1
  go_upto_if 91 with (go_at_call 14; refine VS.mono ?_; rintro e w7 ⟨rfl, hb7⟩)
  have B7 : Hid (Below w4.heap.size w4 w7) := two_worlds B6.out hb7
  clear hb7 VS B6 y0 y1 hkk0 hkk1 hkk
  obtain ⟨y0, y1⟩ := BX.out _ (TR2.out _ (TR3.out _ (TR4.out _ B7.out)))
  have RO : Hid (∀ (x y : Int) W, Below w4.heap.size w4 W → Calls Try.prog 15 #[.agg #[.int .i64 (ms : Int), .slice ao k ca], .slice a4 ms c4, .int .i64 x, .int .i64 y] W (GivesL (routeOf (ms : Int) ts set2 x y) W)) := fun x y W hW => implRouteOf_any (ms : Int) x y ao a4 ts set2 k ca ms c4 W HL (FSV.out _ (TR2.out _ (TR3.out _ (TR4.out _ hW)))) (by omega) HM2 (FS2.out _ hW) (by omega)
  go_cut [4] (fun _ wx => Hid (Below w4.heap.size w4 wx))
  case first =>
    by_cases hq : q = 0
    · subst hq
      go_wp2
      go_meet
      exact B7
    · obtain ⟨q', rfl⟩ : ∃ q', q = q' + 1 := ⟨q - 1, by omega⟩
      have hq0 : 0 < way.length := by rw [HQ.out]; omega
      have hq1 : q' < way.length := by rw [HQ.out]; omega
      have RS := route_set HSET.out HSIM.out HQ.out
      rw [HE2.out] at RS
      have st0 := way_stR HSIM.out 0 hq0
      have st1 := way_stR HSIM.out q' hq1
      obtain ⟨j0, t0, e0, h0, f0⟩ := st_get st0
      obtain ⟨j1, t1, e1, h1, f1⟩ := st_get st1
      obtain ⟨b1, o1, he, _, c0⟩ := (FWAY.out w7 (TR4.out _ B7.out)).at_ 0 hq0
      injection he with he
      injection he with q1 q2
      subst q1 q2
      obtain ⟨b2, o2, he, _, c1⟩ := (FWAY.out w7 (TR4.out _ B7.out)).at_ q' hq1
      injection he with he
      injection he with q1 q2
      subst q1 q2
      rw [e0] at c0
      rw [e1] at c1
      have ha1 : toAt ts way[q'] = t1.2.1 := by rw [e1]; exact toAt_of h1
      have ha0 : frAt ts way[0] = t0.1 := by rw [e0]; exact frAt_of h0
      rw [ha0, ha1] at RS
      simp only [Nat.zero_add] at c0 c1
      obtain ⟨k0, f0⟩ := f0
      obtain ⟨k1, f1⟩ := f1
      obtain ⟨ba, oa, rfl, hba, hca⟩ := (FSV.out w7 (TR2.out _ (TR3.out _ (TR4.out _ B7.out)))).addr (by omega)
      obtain ⟨d0, _, _⟩ := hca j0 k0
      obtain ⟨_, d1, _⟩ := hca j1 k1
      rw [f0] at d0
      rw [f1] at d1
      have hj0 : (j0 : Int) < (k : Int) := by have := HL.out; omega
      have hj1 : (j1 : Int) < (k : Int) := by have := HL.out; omega
      have hj2 : (0 : Int) ≤ (j0 : Int) := by omega
      have hj3 : (0 : Int) ≤ (j1 : Int) := by omega
      have hj4 : j0 < k := by omega
      have hj5 : j1 < k := by omega
      have hql : IntKind.i64.wrap ((q' : Int) + 1 - 1) = (q' : Int) := by rw [IntKind.wrap_i64]; omega
      have hql2 : IntKind.i64.wrap (q' : Int) = (q' : Int) := IntWalk.i64_in _ (by omega)
      have hq2 : (0 : Int) ≤ (q' : Int) := by omega
      have hq3 : (0 : Int) < (q' : Int) + 1 := by omega
      have hq5 : (q' : Int) < (q' : Int) + 1 := by omega
      clear hca e0 e1 h0 h1 st0 st1 ha0 ha1 f0 f1
      go_wp2_with fail
      go_quiet (fail)
      go_wp2_with fail
      go_quiet (fail)
      clear c0 c1 d0 d1 hql hql2
      go_wp2_with fail
      refine (RO.out t0.1 t1.2.1 _ (two_worlds B7.out (by (repeat (first | exact Below.refl _ _ | refine Below.drew ?_ | refine Below.drewN' ?_ _ | refine Below.alloc ?_ (by first | (simp; done) | (simp; omega)) _ | refine Below.setCell ?_ (by first | (simp; done) | (simp; omega)) _)); done))).mono ?_
      intro e w8 hgv
      rw [RS] at hgv
      obtain ⟨a5, c5, rfl, hb8, ho8⟩ := GivesL.elim HQ hgv
      have B8 : Hid (Below w4.heap.size w4 w8) := two_worlds (two_worlds B7.out (by (repeat (first | exact Below.refl _ _ | refine Below.drew ?_ | refine Below.drewN' ?_ _ | refine Below.alloc ?_ (by first | (simp; done) | (simp; omega)) _ | refine Below.setCell ?_ (by first | (simp; done) | (simp; omega)) _)); done)) hb8
      have SM := a2Same_yes a5 (some ⟨bw, 0, none⟩) way (q' + 1) c5 cw w8 HQ (rowI_RI HQ ho8) (FWAY.out _ (TR4.out _ B8.out)) (by omega)
      clear hgv hb8 ho8 y0 y1
      go_wp2_with (go_at_call 16; refine SM.mono ?_; rintro e w9 ⟨rfl, q9, rfl⟩)
      go_meet
      exact Below.drewN' B8.out q9
  case rest =>
    obtain ⟨y0, y1⟩ := BX.out _ (TR2.out _ (TR3.out _ (TR4.out _ hcut.out)))
    clear B7
    have CS := implCircle_any (ms : Int) ao (some ⟨bs, 0, none⟩) ts set k ca ms cs wc HL (FSV.out _ (TR2.out _ (TR3.out _ (TR4.out _ hcut.out)))) (by omega) HMS (FSET.out _ (TR3.out _ (TR4.out _ hcut.out))) (by omega)
    have hcl := circleOf_len (ms : Int) ts set
    rw [circle_ok HSET.out] at CS hcl
    obtain ⟨l, hl⟩ : ∃ l, circ (ms : Int) ts set ms = l := ⟨_, rfl⟩
    have HKL := Lib.hid hl
    have hrise := rises_of (circ_rises (ms : Int) ts set ms)
    rw [hl] at CS hrise hcl
    obtain ⟨m2, hm2⟩ : ∃ m2, l.length = m2 := ⟨_, rfl⟩
    have HM3 := Lib.hid hm2
    have hlen : m2 ≤ 1048576 := by rw [← hm2]; exact hcl
    have HRISE := Lib.hid hrise
    clear hl hm2 hrise hcl
    go_wp2_with fail
    refine CS.mono ?_
    intro e w8 hgv
    obtain ⟨a8, c8, rfl, hb8, ho8⟩ := GivesL.elim HM3 hgv
    have FL : Hid (∀ W, Below w8.heap.size w8 W → RI W a8 l) := fun W hW => (rowI_RI HM3 ho8).below hW
    have B8 : Hid (∀ W, Below w8.heap.size w8 W → Below w3.heap.size w3 W) := fun W hW => TR4.out _ (two_worlds (two_worlds hcut.out hb8) hW)
    obtain ⟨z0, z1⟩ := BX.out _ (TR2.out _ (TR3.out _ (B8.out w8 (Below.refl _ _))))
    have RS := a2Rises_yes a8 l m2 c8 (ms : Int) w8 HM3 (FL.out _ (Below.refl _ _)) hlen HRISE.out
    clear CS hgv hb8 ho8 y0 y1 HRISE
    go_wp2_with (go_at_call 18; refine RS.mono ?_; rintro e w9 ⟨rfl, q9, rfl⟩)
    clear RS z0 z1
    go_loopw [20] (fun iv wr => ∃ i : Nat, i ≤ ms ∧ iv = .int .i64 (i : Int) ∧ Hid (Below w8.heap.size w8 wr)) (fun iv _ => ms - (intOf iv).toNat)
    case atStart => exact ⟨0, by omega, rfl, Below.drewN' (Below.refl _ _) q9⟩
    case round =>
      obtain ⟨i, hi, rfl, HB⟩ := hrel
      obtain ⟨y0, y1⟩ := BX.out _ (TR2.out _ (TR3.out _ (B8.out _ HB.out)))
      by_cases hlt : i < ms
      · have hi0 : (0 : Int) ≤ (i : Int) := by omega
        have hi1 : (i : Int) < (ms : Int) := by omega
        have hst : stB (ms : Int) (i : Int) = true := by unfold stB; exact decide_eq_true ⟨hi0, hi1⟩
        have EO := implEndOf_any (ms : Int) (i : Int) ao (some ⟨bs, 0, none⟩) ts set k ca ms cs wr HL (FSV.out _ (TR2.out _ (TR3.out _ (B8.out _ HB.out)))) (by omega) HMS (FSET.out _ (TR3.out _ (B8.out _ HB.out))) (by omega)
        have AH : Hid (∀ W, Below w8.heap.size w8 W → Calls Try.prog 20 #[.slice a8 m2 c8, .int .i64 (i : Int)] W fun e w' => e = .returned (.bool (runF ts set (-1) ms (i : Int)).isNone) ∧ W = w') := fun W hW => by
          have h9 := a2Has_any a8 l m2 c8 (i : Int) W HM3 (FL.out W hW) hlen
          rw [← HKL.out, circ_has hlt] at h9
          exact h9
        cases hr : runF ts set (-1) ms (i : Int) with
        | none =>
          rw [end_none HSET.out hst (by rw [Int.toNat_natCast]; exact hr)] at EO
          rw [hr] at AH
          dsimp only at EO
          clear hr
          go_wp2_with (first | (go_at_call 19; refine EO.mono ?_; rintro e w9 ⟨rfl, hb9⟩) | (go_at_call 20; refine (AH.out _ (two_worlds HB.out hb9)).mono ?_; rintro e w10 ⟨rfl, rfl⟩))
          go_roundw
          case rel => exact ⟨i + 1, by omega, by go_num, two_worlds HB.out hb9⟩
          case measure => simp [intOf]; omega
        | some p =>
          obtain ⟨r, y⟩ := p
          obtain ⟨g1, g2, g3, g4, g5, g6⟩ := end_some HSET.out hst (by rw [Int.toNat_natCast]; exact hr)
          rw [g1] at EO
          rw [hr] at AH
          dsimp only at EO
          have HY := Lib.hid g2
          obtain ⟨yn, rfl⟩ : ∃ yn : Nat, y = yn := ⟨y.toNat, by unfold stB at g2; have := of_decide_eq_true g2; omega⟩
          have hy1 : yn < ms := by unfold stB at g2; have := of_decide_eq_true g2; omega
          have hyl : yn < set.length := by rw [HMS.out]; exact hy1
          rw [setAt_get hyl] at g3
          have hy2 : (0 : Int) ≤ (yn : Int) := by omega
          have hy3 : (yn : Int) < (ms : Int) := by omega
          have W1 : Hid (isWayOf (ms : Int) ts k r (i : Int) (yn : Int) = (true, 0)) := isWay_ok HSET.out HL.out hst g2 g5 g6
          obtain ⟨lr, hlr⟩ : ∃ lr, r.length = lr := ⟨_, rfl⟩
          have HLR := Lib.hid hlr
          have hrl : lr ≤ 1048576 := by
            have h9 := run_len _ _ _ hr
            dsimp only at h9
            omega
          have RI2 : Hid (∀ W, Below w8.heap.size w8 W → Calls Try.prog 15 #[.agg #[.int .i64 (ms : Int), .slice ao k ca], .slice (some ⟨bs, 0, none⟩) ms cs, .int .i64 (i : Int), .int .i64 (yn : Int)] W (GivesL (r, 0) W)) := fun W hW => by
            have h9 := implRouteOf_any (ms : Int) (i : Int) (yn : Int) ao (some ⟨bs, 0, none⟩) ts set k ca ms cs W HL (FSV.out _ (TR2.out _ (TR3.out _ (B8.out _ hW)))) (by omega) HMS (FSET.out _ (TR3.out _ (B8.out _ hW))) (by omega)
            rw [g4] at h9
            exact h9
          clear hr g1 g2 g4 g5 g6 hlr
          go_upto_region 27 with (first | (go_at_call 19; refine EO.mono ?_; rintro e w9 ⟨rfl, hb9⟩) | (go_at_call 20; refine (AH.out _ (two_worlds HB.out hb9)).mono ?_; rintro e w10 ⟨rfl, rfl⟩))
          have HB9 : Hid (Below w8.heap.size w8 w9) := two_worlds HB.out hb9
          clear hb9 EO AH y0 y1
          obtain ⟨y0, y1⟩ := BX.out _ (TR2.out _ (TR3.out _ (B8.out _ HB9.out)))
          obtain ⟨b1, o1, he, _, x1⟩ := (FSET.out w9 (TR3.out _ (B8.out _ HB9.out))).at_ yn hyl
          injection he with he
          injection he with q1 q2
          subst q1 q2
          rw [g3] at x1
          simp only [Nat.zero_add] at x1
          go_wp2_with fail
          refine (RI2.out _ HB9.out).mono ?_
          intro e w10 hgv
          obtain ⟨a10, c10, rfl, hb10, ho10⟩ := GivesL.elim HLR hgv
          have HB10 : Hid (Below w8.heap.size w8 w10) := two_worlds HB9.out hb10
          clear y0 y1
          obtain ⟨y0, y1⟩ := BX.out _ (TR2.out _ (TR3.out _ (B8.out _ HB10.out)))
          have IW := implIsWay_any (ms : Int) (i : Int) (yn : Int) ao a10 ts r k ca lr c10 w10 HL (FSV.out _ (TR2.out _ (TR3.out _ (B8.out _ HB10.out)))) (by omega) HLR (rowI_RI HLR ho10) hrl
          rw [W1.out] at IW
          dsimp only at IW
          clear hgv hb10 ho10 x1 g3
          go_wp2_with (go_at_call 21; refine IW.mono ?_; rintro e w11 ⟨rfl, hb11⟩)
          go_roundw
          case rel => exact ⟨i + 1, by omega, by go_num, two_worlds HB10.out hb11⟩
          case measure => simp [intOf]; omega
      · go_wp2
        go_ret
        exact ⟨rfl, TRS.out _ (TR2.out _ (TR3.out _ (B8.out _ HB.out)))⟩
end Go.Proofs.Ytenjigifjkfiaaa.fnRoutes
