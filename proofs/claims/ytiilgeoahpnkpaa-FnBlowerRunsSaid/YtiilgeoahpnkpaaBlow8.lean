/-
  Blowers: StartsOfBlower, HoursOfBlower, LongestRun: the program's walks.
-/
import Derived.Test.YtiilgeoahpnkpaaBlow4
import Derived.Test.YtiilgeoahpnkpaaBlow7
import Derived.Deep.AppendLies
namespace Go.Proofs.Ytiilgeoahpnkpaa
open Go.RowKit

theorem infoStay : (Try.prog.info? 105).map (fun i => (i.zero, i.size, i.bytes)) = some (some (.agg #[.int .i64 0, .int .i64 0]), 2, 16) := by kernel_rfl
theorem stayLen_any (f e : Int) (w : World) (h : -1000 ≤ f ∧ f ≤ 1000) (h2 : -1000 ≤ e ∧ e ≤ 1000) : Calls Try.prog 94 #[.agg #[.int .i64 f, .int .i64 e]] w fun r w' => r = .returned (.int .i64 (lenS (f, e))) ∧ Below w.heap.size w w' := by
  have hw := wrI (x := e - f) (by omega)
  go_enter Try.func94, Try.ntmps94
  go_wp2
  go_ret
  exact ⟨by unfold lenS; first | rfl | rw [hw], (by repeat (first | exact Below.refl _ _ | refine Below.alloc ?_ (by simp; try omega) _ | refine Below.setCell ?_ (by simp; try omega) _))⟩
theorem stayBeg_any (f e : Int) (w : World) : Calls Try.prog 95 #[.agg #[.int .i64 f, .int .i64 e]] w fun r w' => r = .returned (.int .i64 f) ∧ Below w.heap.size w w' := by
  go_enter Try.func95, Try.ntmps95
  go_wp2
  go_ret
  exact ⟨rfl, (by repeat (first | exact Below.refl _ _ | refine Below.alloc ?_ (by simp; try omega) _ | refine Below.setCell ?_ (by simp; try omega) _))⟩
/-- A call hands back the runs of hours. -/
def GivesRuns (rs : List TStay) (w : World) (e : Ending) (w' : World) : Prop := ∃ (ao : Option Addr) (R cap : Nat), Hid (rs.length = R) ∧ e = .returned (.slice ao R cap) ∧ Below w.heap.size w w' ∧ RR 2 cStay w' ao rs ∧ ∀ x, (Value.slice ao R cap).ownBlock = some x → w.heap.size ≤ x
theorem runs_set {rs : List TStay} {k : Nat} (hk : k < rs.length) (x : Int) : (rs.flatMap cStay).set (k * 2 + 1) (.int .i64 x) = (rs.set k ((rs.getD k (0, 0)).1, x)).flatMap cStay := by
  refine rflat_set cStay_len rs k hk 1 (by omega) (.int .i64 x) _ ?_
  rw [List.getD_eq_getElem?_getD, List.getElem?_eq_getElem hk]
  rfl
theorem start_set (rs : List TStay) (x y : Int) : (rs ++ [(x, 0)]).set rs.length (((rs ++ [(x, 0)]).getD rs.length (0, 0)).1, y) = rs ++ [(x, y)] := by
  rw [List.set_append_right _ _ (Nat.le_refl _), Nat.sub_self, List.set_cons_zero, List.getD_eq_getElem?_getD, List.getElem?_append_right (Nat.le_refl _), Nat.sub_self]
  rfl
set_option maxRecDepth 20000 in
set_option maxHeartbeats 4000000 in
theorem hourRuns_any (ts : List TBlower) (n : Nat) (a : Option Addr) (l : List Int) (m c k : Nat) (w : World) (hm : Hid (l.length = m)) (hr : RI w a l) (HM : Hid (OfK ts l k n m)) :
    Calls Try.prog 93 #[.slice a m c, .int .i64 k] w (GivesRuns (runsL (qB l k) m) w) := by
  have HRI : Hid (∀ W, Below w.heap.size w W → RI W a l) := fun W h => hr.below h
  have HI : Hid (∃ i0 : TypeInfo, Try.prog.info? 105 = some i0 ∧ i0.zero = some (.agg #[.int .i64 0, .int .i64 0]) ∧ i0.size = 2 ∧ i0.bytes = 16) := info_parts infoStay
  have h24 := HM.out.day
  have hk4 := HM.out.four
  clear hr
  go_enter Try.func93, Try.ntmps93
  go_wp2
  go_loopw [5, 6, 12] (fun sv bv iv wr => ∃ (i bf R cap : Nat) (ao : Option Addr), i ≤ m ∧ R ≤ i ∧ sv = .slice ao R cap ∧ bv = .int .i64 bf ∧ iv = .int .i64 i ∧ Hid (bf = befN l i) ∧ Hid (Below w.heap.size w wr) ∧ Hid ((runsL (qB l k) i).length = R) ∧ Hid (wr.ownsRow w.heap.size 105 2 (.slice ao R cap) R ((runsL (qB l k) i).flatMap cStay))) (fun _ _ iv _ => m - (intOf iv).toNat)
  case atStart => exact ⟨0, 0, 0, 0, none, by omega, by omega, rfl, rfl, rfl, rfl, Below.refl _ _, rfl, World.ownsRow_nil _ _ _ _⟩
  case round =>
    obtain ⟨i, bf, R, cap, ao, hi, hRi, rfl, rfl, rfl, HBF, HBEL, HLEN, HOWN⟩ := hrel
    have hws := HBEL.out.size
    by_cases hlt : i < m
    · have hka : i < l.length := by rw [hm.out]; exact hlt
      obtain ⟨bb, ob, rfl, hbl, x1⟩ := (HRI.out _ HBEL.out).at_ i hka
      obtain ⟨s, hs, hs2⟩ := HM.out.sets i hlt
      rw [← getD_atI hka, hs] at x1
      have hbf16 := HM.out.bef i hi
      rw [← HBF.out] at hbf16
      have HBF2 : Hid (s = befN l (i + 1)) := by unfold Hid; rw [befN, hs]; simp
      have HQ : Hid (qB l k i = s.testBit k) := by unfold Hid qB; rw [hs]; simp
      have HQB : Hid (befB (qB l k) i = bf.testBit k) := by unfold Hid; rw [befB_qB, HBF.out]
      have hk0 : (0 : Int) ≤ (i : Int) := by omega
      have hk1 : (i : Int) < (m : Int) := by omega
      have hz := andNotI ⟨s, hs2⟩ ⟨bf, hbf16⟩
      dsimp only at hz
      have HZB := lessS_bit (s := s) (b := bf) hk4
      have hzl := lessS_le s bf
      generalize lessS s bf = z at hz HZB hzl
      have HF := fun W => isInSet_any s k W (by omega) (by omega)
      have HG := fun W => isInSet_any z k W (by omega) (by omega)
      rw [HZB] at HG
      clear HZB hs
      cases hbit : s.testBit k with
      | false =>
        have HN : Hid (runsL (qB l k) (i + 1) = runsL (qB l k) i) := runsL_no (HQ.out.trans hbit)
        rw [hbit] at HF HG
        simp only [Bool.false_and] at HG
        clear hbit
        go_wp2_with (go_at_call 86; first | (with_reducible refine Calls.mono (HF _) ?_; rintro e w4 ⟨rfl, rfl⟩) | (with_reducible refine Calls.mono (HG _) ?_; rintro e w4 ⟨rfl, rfl⟩))
        go_roundw
        case rel => exact ⟨i + 1, s, R, cap, ao, by omega, by omega, rfl, rfl, by go_num, HBF2, HBEL, by unfold Hid; rw [HN.out]; exact HLEN.out, by unfold Hid; rw [HN.out]; exact HOWN.out⟩
        case measure => simp [intOf]; omega
      | true =>
        rw [hbit] at HF HG
        simp only [Bool.true_and] at HG
        cases hbb : bf.testBit k with
        | true =>
          have HN : Hid (runsL (qB l k) (i + 1) = (runsL (qB l k) i).set (R - 1) (((runsL (qB l k) i).getD (R - 1) (0, 0)).1, (i : Int) + 1)) := by
            unfold Hid
            rw [runsL_go (HQ.out.trans hbit) (HQB.out.trans hbb), HLEN.out]
          have hR1 : 1 ≤ R := by
            obtain ⟨init, e, he, _⟩ := (runsP (qB l k) i).open_ (HQB.out.trans hbb)
            rw [← HLEN.out, he]; simp
          obtain ⟨T, rfl⟩ : ∃ T, R = T + 1 := ⟨R - 1, by omega⟩
          rw [Nat.add_sub_cancel] at HN
          obtain ⟨g, cap1, hv, hgl, hgr⟩ := HOWN.out.form (by omega)
          injection hv with hv1 hv2 hv3
          subst hv1 hv3
          have HSET : Hid ((wr.setCell ⟨g, T * 2 + 1, none⟩ (.int .i64 ((i : Int) + 1))).ownsRow w.heap.size 105 2 (.slice (some ⟨g, 0, none⟩) (T + 1) cap) (T + 1) ((runsL (qB l k) (i + 1)).flatMap cStay)) := by
            unfold Hid
            rw [HN.out, ← runs_set (by rw [HLEN.out]; omega)]
            exact ownsRow_set HOWN.out _ _
          have HL2 : Hid ((runsL (qB l k) (i + 1)).length = T + 1) := by unfold Hid; rw [HN.out, List.length_set, HLEN.out]
          have hlt3 : T < (runsL (qB l k) i).length := by rw [HLEN.out]; omega
          have y0 := ownsRow_cell HOWN.out (T * 2 + 1) _ (by rw [rflat_get cStay_len (runsL (qB l k) i) T hlt3 1 (by omega)]; rfl)
          have yz := ownsRow_frozen HOWN.out (T * 2 + 1)
          have hT0 : (0 : Int) ≤ (T : Int) := by omega
          have hT1 : (T : Int) < (T : Int) + 1 := by omega
          rw [hbb] at HG
          simp only [Bool.not_true] at HG
          clear hbit hbb HOWN HLEN
          go_wp2_with (go_at_call 86; first | (with_reducible refine Calls.mono (HF _) ?_; rintro e w4 ⟨rfl, rfl⟩) | (with_reducible refine Calls.mono (HG _) ?_; rintro e w4 ⟨rfl, rfl⟩))
          go_roundw
          case rel => exact ⟨i + 1, s, T + 1, cap, _, by omega, by omega, rfl, rfl, by go_num, HBF2, HBEL.out.setCell hgl _, HL2, HSET.out⟩
          case measure => simp [intOf]; omega
        | false =>
          have HN : Hid (runsL (qB l k) (i + 1) = runsL (qB l k) i ++ [((i : Int), (i : Int) + 1)]) := runsL_start (HQ.out.trans hbit) (HQB.out.trans hbb)
          have HSET : Hid (∀ (W : World) (g cap : Nat), W.ownsRow w.heap.size 105 2 (.slice (some ⟨g, 0, none⟩) (R + 1) cap) (R + 1) ((runsL (qB l k) i).flatMap cStay ++ [.int .i64 i, .int .i64 0]) → ((∃ v, W.cell? ⟨g, R * 2 + 1, none⟩ = some v) ∧ W.frozen? ⟨g, R * 2 + 1, none⟩ = false) ∧ (W.setCell ⟨g, R * 2 + 1, none⟩ (.int .i64 ((i : Int) + 1))).ownsRow w.heap.size 105 2 (.slice (some ⟨g, 0, none⟩) (R + 1) cap) (R + 1) ((runsL (qB l k) (i + 1)).flatMap cStay)) := by
            intro W g cap ho
            have e1 : (runsL (qB l k) i).flatMap cStay ++ [.int .i64 i, .int .i64 0] = (runsL (qB l k) i ++ [((i : Int), (0 : Int))]).flatMap cStay := by rw [List.flatMap_append]; rfl
            rw [e1] at ho
            have hl3 : R < (runsL (qB l k) i ++ [((i : Int), (0 : Int))]).length := by rw [List.length_append, HLEN.out]; simp
            refine ⟨⟨⟨_, ownsRow_cell ho (R * 2 + 1) _ (by rw [rflat_get cStay_len _ R hl3 1 (by omega)]; rfl)⟩, ownsRow_frozen ho _⟩, ?_⟩
            have e2 := start_set (runsL (qB l k) i) (i : Int) ((i : Int) + 1)
            rw [HLEN.out] at e2
            rw [HN.out, ← e2, ← runs_set hl3]
            exact ownsRow_set ho _ _
          have HL2 : Hid ((runsL (qB l k) (i + 1)).length = R + 1) := by unfold Hid; rw [HN.out, List.length_append, HLEN.out]; rfl
          have HGE : Hid (∀ q, (Value.slice ao R cap).ownBlock = some q → w.heap.size ≤ q) := fun q hq => (HOWN.out.lt q hq).1
          have HOA : Hid (∀ o, (wr.alloc o).ownsRow w.heap.size 105 2 (.slice ao R cap) R ((runsL (qB l k) i).flatMap cStay)) := fun o => HOWN.out.alloc o
          have hR0 : (0 : Int) ≤ (R : Int) := by omega
          have hR1 : (R : Int) < (R : Int) + 1 := by omega
          rw [hbb] at HG
          simp only [Bool.not_false] at HG
          clear hbit hbb HOWN HLEN HN
          go_wp2_with (first | (go_at_call 86; first | (with_reducible refine Calls.mono (HF _) ?_; rintro e w4 ⟨rfl, rfl⟩) | (with_reducible refine Calls.mono (HG _) ?_; rintro e w4 ⟨rfl, rfl⟩)) | (at_builtin; refine wpList_append_lies _ rfl _ _ 102 rfl w.heap.size 105 HI.out.choose (.agg #[.int .i64 0, .int .i64 0]) 2 16 Try.underlying102 HI.out.choose_spec.1 HI.out.choose_spec.2.1 HI.out.choose_spec.2.2.1 HI.out.choose_spec.2.2.2 rfl (by decide) (.slice ao R cap) R ((runsL (qB l k) i).flatMap cStay) rfl (HOA.out _) ⟨wr.heap.size, 0, none⟩ 1 1 [.int .i64 i, .int .i64 0] rfl rfl ?_ (by intro u hu; simp at hu; rcases hu with rfl | rfl <;> rfl) (by omega) (by unfold maxLen; omega) (by omega) (by simp; omega) (wr.heap.size + 1) (by simp) ?_))
          · intro j u hj
            match j, hj with
            | 0, hj => (simp at hj; subst hj; simp [Addr.add, go_sem])
            | 1, hj => (simp at hj; subst hj; simp [Addr.add, go_sem])
          intro g' cap' w3 hown1 hgrow hat hlt2
          have B5 : Hid (Below w.heap.size w w3) := Below.grown (by repeat (first | exact HBEL.out | refine Below.alloc ?_ (by first | omega | (simp; done) | (simp; omega)) _ | refine Below.setCell ?_ (by first | omega | (simp; done) | (simp; omega)) _)) hgrow (by simp; omega) HGE.out
          have hgl := (hown1.lt g' rfl).1
          obtain ⟨⟨⟨y0, hy0⟩, yz⟩, hset⟩ := HSET.out _ _ _ hown1
          have HO5 := Lib.hid hset
          clear hown1 hgrow hat hlt2 HSET HOA hset HGE
          go_wp2_with (go_at_call 86; first | (with_reducible refine Calls.mono (HF _) ?_; rintro e w4 ⟨rfl, rfl⟩) | (with_reducible refine Calls.mono (HG _) ?_; rintro e w4 ⟨rfl, rfl⟩))
          go_roundw
          case rel => exact ⟨i + 1, s, R + 1, cap', _, by omega, by omega, rfl, rfl, by go_num, HBF2, B5.out.setCell hgl _, HL2, HO5.out⟩
          case measure => simp [intOf]; omega
    · have hkm : i = m := by omega
      subst hkm
      have HRR := Lib.hid (own_RR cStay_len HLEN HOWN.out)
      go_wp2
      go_ret
      exact ⟨ao, R, cap, HLEN, rfl, HBEL.out, HRR.out, fun x hx => (HOWN.out.lt x hx).1⟩
set_option maxRecDepth 20000 in
set_option maxHeartbeats 2000000 in
theorem implStartsOfBlower_any (w : World) {a0 : Option Addr} {n0 c0 : Nat} (ts0 : List TBlower) (hn0 : Hid (ts0.length = n0)) (h0 : RR 3 cBlower w a0 ts0) (hs0 : n0 ≤ 1048576) (_wf0 : Hid (∀ t ∈ ts0, wfBlower t)) {a1 : Option Addr} {n1 c1 : Nat} (l1 : List Int) (hn1 : Hid (l1.length = n1)) (h1 : RI w a1 l1) (hs1 : n1 ≤ 1048576) (_wf1 : Hid (∀ k ∈ l1, (Lit.int .i64 k).wf = true)) (f2 : Int) (_wf2 : (Lit.int .i64 f2).wf = true) :
    Calls Try.prog 40 #[.slice a0 n0 c0, .slice a1 n1 c1, .int .i64 f2] w fun e w' => e = .returned (.tuple #[.int .i64 (startOf ts0 l1 f2).1, .int .i64 (startOf ts0 l1 f2).2]) ∧ Below w.heap.size w w' := by
  have CS := checkBlower_any a0 ts0 n0 c0 a1 l1 n1 c1 f2 w hn0 h0 hs0 hn1 h1 hs1
  rcases eq_ways (kcode ts0 l1 f2) 0 with ⟨⟨k1, k2⟩, hd⟩ | ⟨⟨k1, k2⟩, hd⟩
  rotate_left
  · have HR : Hid (startOf ts0 l1 f2 = (0, kcode ts0 l1 f2)) := by unfold Hid startOf; rw [if_neg hd]
    clear h0 h1 hd
    go_enter Try.func40, Try.ntmps40
    go_wp2_with (first | (go_at_call 92; refine CS.mono ?_; rintro e w1 ⟨rfl, hb1⟩))
    go_ret2
    rw [HR.out]
    exact ⟨rfl, hb1⟩
  obtain ⟨k, rfl, HM⟩ := ofk_of hn0.out hn1.out hd
  have h24 := HM.out.day
  have HR : Hid (startOf ts0 l1 (k : Int) = ((startsN (qB l1 k) n1 : Int), 0)) := by unfold Hid startOf; rw [if_pos hd, hn1.out, Int.toNat_natCast]
  have RU : Hid (∀ W, Below w.heap.size w W → Calls Try.prog 93 #[.slice a1 n1 c1, .int .i64 k] W (GivesRuns (runsL (qB l1 k) n1) W)) := fun W hW => hourRuns_any ts0 n0 a1 l1 n1 c1 k W hn1 (h1.below hW) HM
  have HP := Lib.hid (runsP (qB l1 k) n1)
  rw [hd] at CS
  clear h0 h1 hd k1 k2
  go_enter Try.func40, Try.ntmps40
  go_wp2_with (first | (go_at_call 92; refine CS.mono ?_; rintro e w1 ⟨rfl, hb1⟩; have HB1 := Lib.hid hb1; clear hb1) | (go_at_call 93; refine (RU.out _ HB1.out).mono ?_; intro e w2 hg2; obtain ⟨ao, R, cap, HRL, rfl, hb2, hrr, _⟩ := hg2; have HB2 := Lib.hid (HB1.out.trans (hb2.mono HB1.out.size)); have HRR := Lib.hid hrr; clear hb2 hrr))
  go_ret2
  rw [HR.out, ← HP.out.len, HRL.out]
  exact ⟨rfl, HB2.out⟩
set_option maxRecDepth 20000 in
set_option maxHeartbeats 2000000 in
theorem implHoursOfBlower_any (w : World) {a0 : Option Addr} {n0 c0 : Nat} (ts0 : List TBlower) (hn0 : Hid (ts0.length = n0)) (h0 : RR 3 cBlower w a0 ts0) (hs0 : n0 ≤ 1048576) (_wf0 : Hid (∀ t ∈ ts0, wfBlower t)) {a1 : Option Addr} {n1 c1 : Nat} (l1 : List Int) (hn1 : Hid (l1.length = n1)) (h1 : RI w a1 l1) (hs1 : n1 ≤ 1048576) (_wf1 : Hid (∀ k ∈ l1, (Lit.int .i64 k).wf = true)) (f2 : Int) (_wf2 : (Lit.int .i64 f2).wf = true) :
    Calls Try.prog 39 #[.slice a0 n0 c0, .slice a1 n1 c1, .int .i64 f2] w fun e w' => e = .returned (.tuple #[.int .i64 (hourOf ts0 l1 f2).1, .int .i64 (hourOf ts0 l1 f2).2]) ∧ Below w.heap.size w w' := by
  have CS := checkBlower_any a0 ts0 n0 c0 a1 l1 n1 c1 f2 w hn0 h0 hs0 hn1 h1 hs1
  rcases eq_ways (kcode ts0 l1 f2) 0 with ⟨⟨k1, k2⟩, hd⟩ | ⟨⟨k1, k2⟩, hd⟩
  rotate_left
  · have HR : Hid (hourOf ts0 l1 f2 = (0, kcode ts0 l1 f2)) := by unfold Hid hourOf; rw [if_neg hd]
    clear h0 h1 hd
    go_enter Try.func39, Try.ntmps39
    go_wp2_with (first | (go_at_call 92; refine CS.mono ?_; rintro e w1 ⟨rfl, hb1⟩))
    go_ret2
    rw [HR.out]
    exact ⟨rfl, hb1⟩
  obtain ⟨k, rfl, HM⟩ := ofk_of hn0.out hn1.out hd
  have h24 := HM.out.day
  have HR : Hid (hourOf ts0 l1 (k : Int) = ((hoursN (qB l1 k) n1 : Int), 0)) := by unfold Hid hourOf; rw [if_pos hd, hn1.out, Int.toNat_natCast]
  have RU : Hid (∀ W, Below w.heap.size w W → Calls Try.prog 93 #[.slice a1 n1 c1, .int .i64 k] W (GivesRuns (runsL (qB l1 k) n1) W)) := fun W hW => hourRuns_any ts0 n0 a1 l1 n1 c1 k W hn1 (h1.below hW) HM
  have HP := Lib.hid (runsP (qB l1 k) n1)
  rw [hd] at CS
  clear h0 h1 hd k1 k2
  go_enter Try.func39, Try.ntmps39
  go_wp2_with (first | (go_at_call 92; refine CS.mono ?_; rintro e w1 ⟨rfl, hb1⟩; have HB1 := Lib.hid hb1; clear hb1) | (go_at_call 93; refine (RU.out _ HB1.out).mono ?_; intro e w2 hg2; obtain ⟨ao, R, cap, HRL, rfl, hb2, hrr, _⟩ := hg2; have HB2 := Lib.hid (HB1.out.trans (hb2.mono HB1.out.size)); have HRR := Lib.hid hrr; clear hb2 hrr))
  have hs2 : w.heap.size ≤ w2.heap.size := HB2.out.size
  have hle := startsN_le (qB l1 k) n1
  rw [← HP.out.len, HRL.out] at hle
  go_loopw [9, 23] (fun sv iv wr => ∃ (i : Nat) (x : Int), i ≤ R ∧ iv = .int .i64 i ∧ sv = .int .i64 x ∧ 0 ≤ x ∧ x ≤ 100 * i ∧ Hid (x = sumR (runsL (qB l1 k) n1) i) ∧ Hid (Below w2.heap.size w2 wr)) (fun _ iv _ => R - (intOf iv).toNat)
  case atStart => exact ⟨0, 0, by omega, rfl, rfl, by omega, by omega, rfl, Below.refl _ _⟩
  case round =>
    obtain ⟨i, x, hi, rfl, rfl, hx0, hx100, HX, HBEL⟩ := hrel
    have hws := HBEL.out.size
    by_cases hlt : i < R
    · have hil : i < (runsL (qB l1 k) n1).length := by rw [HRL.out]; exact hlt
      obtain ⟨bb, ob, rfl, hbl, hx⟩ := (HRR.out.below HBEL.out).at_ i hil
      have x0 := hx 0 _ rfl
      have x1 := hx 1 _ rfl
      simp only [Nat.add_zero] at x0
      have hbd := HP.out.bd _ (List.getElem_mem hil)
      have HNX : Hid (x + lenS (runsL (qB l1 k) n1)[i] = sumR (runsL (qB l1 k) n1) (i + 1)) := by unfold Hid; rw [sumR_succ hil, HX.out]
      clear hx
      generalize (runsL (qB l1 k) n1)[i] = t at x0 x1 hbd HNX
      obtain ⟨t1, t2⟩ := t
      dsimp only at x0 x1 hbd HNX
      have SL := fun W => stayLen_any t1 t2 W (by omega) (by omega)
      have hle2 : 0 ≤ lenS (t1, t2) ∧ lenS (t1, t2) ≤ 100 := by unfold lenS; dsimp only; omega
      generalize lenS (t1, t2) = y at hle2 HNX SL
      have hw := wrI (x := x + y) (by omega)
      have hk0 : (0 : Int) ≤ (i : Int) := by omega
      have hk1 : (i : Int) < (R : Int) := by omega
      go_wp2_with (go_at_call 94; refine (SL _).mono ?_; rintro e w4 ⟨rfl, hb4⟩)
      go_roundw
      case rel => exact ⟨i + 1, x + y, by omega, by go_num, by first | rfl | rw [hw], by omega, by omega, HNX, Below.trans (by repeat (first | exact HBEL.out | refine Below.alloc ?_ (by first | omega | (simp; done) | (simp; omega)) _ | refine Below.setCell ?_ (by first | omega | (simp; done) | (simp; omega)) _)) (hb4.mono (by simp; omega))⟩
      case measure => simp [intOf]; omega
    · have hkm : i = R := by omega
      subst hkm
      have HS := HP.out.sum
      rw [HRL.out, ← HX.out] at HS
      have HSS := Lib.hid HS
      have HB3 := Lib.hid (HB2.out.trans (HBEL.out.mono hs2))
      clear HS
      go_wp2
      go_ret2
      rw [HR.out, ← HSS.out]
      exact ⟨rfl, HB3.out⟩
end Go.Proofs.Ytiilgeoahpnkpaa
