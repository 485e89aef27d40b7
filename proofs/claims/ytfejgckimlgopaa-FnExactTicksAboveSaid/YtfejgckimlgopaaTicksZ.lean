/-
  TicksAbove: the model's walk (by changes) and the program's (by phases).
-/
import Derived.Test.YtfejgckimlgopaaPhases
import Derived.Lib.MinMax
namespace Go.Proofs.Ytfejgckimlgopaa
open Go.RowKit

noncomputable def tickR (t : TZoned) (z l e : Int) : Int × Int := if rangeCode (leastC t z l) e 10000 = 0 then (tkI l e 0 0 (hisL t.2.2 z), 0) else (0, rangeCode (leastC t z l) e 10000)
def valP (least e : Int) (p : C3) : Int := if least ≤ p.2.2 then max 0 (min p.2.1 e - p.1) else 0
def sumP (least e : Int) (ps : List C3) : Int := (ps.map (valP least e)).sum
theorem sumP_snoc (least e : Int) (ps : List C3) (p : C3) : sumP least e (ps ++ [p]) = sumP least e ps + valP least e p := by
  unfold sumP
  rw [List.map_append, List.sum_append]
  simp
theorem sumP_phs (least e : Int) : ∀ (h : List C3) (f l : Int), sumP least e (phs f l h) = tkI least e f l h
  | [], f, l => by unfold phs tkI sumP valP; simp
  | c :: h, f, l => by
    have ih := sumP_phs least e h c.1 c.2.2
    unfold phs tkI
    unfold sumP at ih ⊢
    rw [List.map_cons, List.sum_cons, ih]
    rfl
theorem phs_mem : ∀ (h : List C3) (f l : Int), 0 ≤ f → f ≤ 10000 → (∀ c ∈ h, 0 ≤ c.1 ∧ c.1 ≤ 10000) → ∀ p ∈ phs f l h, (0 ≤ p.1 ∧ p.1 ≤ 10000) ∧ 0 ≤ p.2.1 ∧ p.2.1 ≤ 9223372036854775807
  | [], f, l, h0, h1, _, p, hp => by
    unfold phs at hp
    simp at hp
    subst hp
    simp; omega
  | c :: h, f, l, h0, h1, hm, p, hp => by
    have hc := hm c (by simp)
    unfold phs at hp
    rcases List.mem_cons.1 hp with rfl | hp
    · simp; omega
    · exact phs_mem h c.1 c.2.2 hc.1 hc.2 (fun x hx => hm x (by simp [hx])) p hp
theorem valP_bd {least e : Int} {p : C3} (h : 0 ≤ p.1) (he : 0 ≤ e ∧ e ≤ 10000) : 0 ≤ valP least e p ∧ valP least e p ≤ 10000 := by
  unfold valP
  split <;> omega
theorem sumP_bd {least e : Int} {ps : List C3} (h : ∀ p ∈ ps, 0 ≤ p.1) (he : 0 ≤ e ∧ e ≤ 10000) (k : Nat) (hk : k ≤ ps.length) : 0 ≤ sumP least e (ps.take k) ∧ sumP least e (ps.take k) ≤ (k : Int) * 10000 := by
  induction k with
  | zero => simp [sumP]
  | succ k ih =>
    have h1 := ih (by omega)
    have h2 := valP_bd (least := least) (h _ (List.getElem_mem (show k < ps.length by omega))) he
    rw [take_snoc _ _ (by omega), sumP_snoc]
    omega
theorem his_bd {t : TZoned} (h : ZonP t) (z : Int) : ∀ c ∈ hisL t.2.2 z, 0 ≤ c.1 ∧ c.1 ≤ 10000 := by
  intro c hc
  obtain ⟨i, hi, rfl⟩ := List.getElem_of_mem (hisL_mem hc).1
  exact (chB_parts (h.2.2.2.2.2.1 i hi)).1
theorem leastC_ok {t : TZoned} {z l e : Int} (h : rangeCode (leastC t z l) e 10000 = 0) : ZonP t ∧ (0 ≤ z ∧ z ≤ t.1 - 1) ∧ 0 ≤ e ∧ e ≤ 10000 := by
  obtain ⟨h1, h2⟩ := range_ok h
  unfold leastC at h1
  by_cases hz : zoneC t z = 0
  · have := zoneC_ok hz
    exact ⟨this.1, this.2, h2⟩
  · rw [if_neg hz] at h1; exact absurd h1 hz
theorem checkLeast_any (t : TZoned) (a b : Option Addr) (n c m d : Nat) (zone least : Int) (w : World) (hz : ZArg w a n b m t) :
    Calls Try.prog 64 #[.agg #[.int .i64 t.1, .slice a n c, .slice b m d], .int .i64 zone, .int .i64 least] w fun e w' => e = .returned (.int .i64 (leastC t zone least)) ∧ Below w.heap.size w w' := by
  have OK : Hid (∀ W, Below w.heap.size w W → Calls Try.prog 85 #[.agg #[.int .i64 t.1, .slice a n c, .slice b m d], .int .i64 zone] W fun e w' => e = .returned (.int .i64 (zoneC t zone)) ∧ Below W.heap.size W w') := fun W h => checkZone_any t a b n c m d zone W (hz.below h)
  clear hz
  rcases eq_ways (zoneC t zone) 0 with ⟨⟨e1, e2⟩, e3⟩ | ⟨⟨e1, e2⟩, e3⟩
  · have HR : Hid (leastC t zone least = if inB least (-100) 100 = true then 0 else 2) := by unfold Hid leastC; rw [if_pos e3]
    rw [e3] at OK
    clear e1 e2 e3
    cases hl : inB least (-100) 100 with
    | true =>
      rw [hl] at HR
      go_enter Try.func64, Try.ntmps64
      go_wp2_with fail
      refine (OK.out _ (by repeat (first | exact Below.refl _ _ | refine Below.alloc ?_ (by simp; try omega) _ | refine Below.setCell ?_ (by simp; try omega) _))).mono ?_
      rintro e w1 ⟨rfl, hb1⟩
      go_wp2_with (go_at_call 65; refine (isWithin_any _ _ _ _).mono ?_; rintro e w' ⟨rfl, rfl⟩)
      go_ret
      exact ⟨ret_int HR.out.symm, Below.trans (by repeat (first | exact Below.refl _ _ | refine Below.alloc ?_ (by simp; try omega) _ | refine Below.setCell ?_ (by simp; try omega) _)) (hb1.mono (by simp))⟩
    | false =>
      rw [hl] at HR
      go_enter Try.func64, Try.ntmps64
      go_wp2_with fail
      refine (OK.out _ (by repeat (first | exact Below.refl _ _ | refine Below.alloc ?_ (by simp; try omega) _ | refine Below.setCell ?_ (by simp; try omega) _))).mono ?_
      rintro e w1 ⟨rfl, hb1⟩
      go_wp2_with (go_at_call 65; refine (isWithin_any _ _ _ _).mono ?_; rintro e w' ⟨rfl, rfl⟩)
      go_ret
      exact ⟨ret_int HR.out.symm, Below.trans (by repeat (first | exact Below.refl _ _ | refine Below.alloc ?_ (by simp; try omega) _ | refine Below.setCell ?_ (by simp; try omega) _)) (hb1.mono (by simp))⟩
  · have HR : Hid (leastC t zone least = zoneC t zone) := by unfold Hid leastC; rw [if_neg e3]
    clear e3
    go_enter Try.func64, Try.ntmps64
    go_wp2_with fail
    refine (OK.out _ (by repeat (first | exact Below.refl _ _ | refine Below.alloc ?_ (by simp; try omega) _ | refine Below.setCell ?_ (by simp; try omega) _))).mono ?_
    rintro e w1 ⟨rfl, hb1⟩
    go_wp2
    go_ret
    exact ⟨ret_int HR.out.symm, Below.trans (by repeat (first | exact Below.refl _ _ | refine Below.alloc ?_ (by simp; try omega) _ | refine Below.setCell ?_ (by simp; try omega) _)) (hb1.mono (by simp))⟩
set_option maxRecDepth 20000 in
set_option maxHeartbeats 4000000 in
theorem implTicksAbove_any (w : World) {a b : Option Addr} {n c m d : Nat} (t : TZoned) (hn : Hid (t.2.1.length = n)) (ha : RI w a t.2.1) (hs : n ≤ 1048576) (hm : Hid (t.2.2.length = m)) (hb : RR 3 cChange w b t.2.2) (hs2 : m ≤ 1048576) (wf : Hid (wfZoned t)) (f1 : Int) (wf1 : (Lit.int .i64 f1).wf = true) (f2 : Int) (_wf2 : (Lit.int .i64 f2).wf = true) (f3 : Int) (_wf3 : (Lit.int .i64 f3).wf = true) :
    Calls Try.prog 33 #[.agg #[.int .i64 t.1, .slice a n c, .slice b m d], .int .i64 f1, .int .i64 f2, .int .i64 f3] w fun e w' => e = .returned (.tuple #[.int .i64 (tickR t f1 f2 f3).1, .int .i64 (tickR t f1 f2 f3).2]) ∧ Below w.heap.size w w' := by
  have HZ : Hid (∀ w', Below w.heap.size w w' → ZArg w' a n b m t) := fun w' h => (ZArg.mk hn ha hs hm hb hs2 wf).below h
  have ZB := Lib.hid (zbox w t.1 a n c b m d)
  clear ha hb
  go_enter Try.func33, Try.ntmps33
  go_wp2_with fail
  refine (checkLeast_any t a b n c m d f1 f2 _ (HZ.out _ (by repeat (first | exact Below.refl _ _ | refine Below.alloc ?_ (by simp; try omega) _ | refine Below.setCell ?_ (by simp; try omega) _)))).mono ?_
  rintro e w1 ⟨rfl, hb1⟩
  have HB1 : Hid (Below w.heap.size w w1) := Below.trans (by repeat (first | exact Below.refl _ _ | refine Below.alloc ?_ (by simp; try omega) _ | refine Below.setCell ?_ (by simp; try omega) _)) (hb1.mono (by simp))
  have hw1 := HB1.out.size
  obtain ⟨p0, p1, p2⟩ := ZB.out _ hb1
  clear hb1
  rcases eq_ways (rangeCode (leastC t f1 f2) f3 10000) 0 with ⟨⟨e1, e2⟩, e3⟩ | ⟨⟨e1, e2⟩, e3⟩
  · have HR : Hid (tickR t f1 f2 f3 = (tkI f2 f3 0 0 (hisL t.2.2 f1), 0)) := by unfold Hid tickR; rw [if_pos e3]
    obtain ⟨hzp, _, he⟩ := leastC_ok e3
    have HPW := Lib.hid (zon_pairs hzp)
    have HIB := Lib.hid (his_bd hzp f1)
    have hfew : (hisL t.2.2 f1).length ≤ 60 := Nat.le_trans (hisL_len _ _) hzp.2.2.2.1
    have HO := Lib.hid (historiesOf_any t a b n c m d w1 (HZ.out _ HB1.out))
    go_wp2_with fail
    refine (checkRange_any _ _ _ _).mono ?_
    rintro e w' ⟨rfl, rfl⟩
    rw [e3]
    clear e3 e1 e2 hzp
    go_wp2_with fail
    refine HO.out.mono ?_
    rintro e w2 ⟨rfl, ⟨V, hV⟩, hb2⟩
    have HB2 : Hid (Below w.heap.size w w2) := HB1.out.trans (hb2.mono hw1)
    obtain ⟨ah, ch, hv, hr⟩ := hV.2.shape f1
    have hlk := hV.1.look Try.underlying2 Try.underlying85 (zeroHist w2) wf1
    rw [hv] at hlk
    obtain ⟨q, hq⟩ : ∃ q, (hisL t.2.2 f1).length = q := ⟨_, rfl⟩
    rw [hq] at hlk hfew
    have HQ := Lib.hid hq
    have PH := Lib.hid (phases_any (hisL t.2.2 f1) ah q ch w2 HQ hfew hr)
    have hw2 := HB2.out.size
    clear hV hb2 hr hv hq HO
    go_wp2_with fail
    refine PH.out.mono ?_
    rintro e w3 ⟨⟨g, cg, rfl, hrr⟩, hb3⟩
    have HB3 : Hid (Below w.heap.size w w3) := HB2.out.trans (hb3.mono hw2)
    have hw3 := HB3.out.size
    have HRR : Hid (∀ W, Below w3.heap.size w3 W → RR 3 cChange W (some ⟨g, 0, none⟩) (phs 0 0 (hisL t.2.2 f1))) := fun W h => hrr.below h
    have HPL : Hid ((phs 0 0 (hisL t.2.2 f1)).length = q + 1) := (phs_len _ _ _).trans (by rw [HQ.out])
    have HPM := Lib.hid (phs_mem (hisL t.2.2 f1) 0 0 (by omega) (by omega) HIB.out)
    have HSUM : Hid (sumP f2 f3 (phs 0 0 (hisL t.2.2 f1)) = tkI f2 f3 0 0 (hisL t.2.2 f1)) := sumP_phs _ _ _ _ _
    generalize hps : phs 0 0 (hisL t.2.2 f1) = ps at HRR HPL HPM HSUM
    clear hps hrr hb3 p0 p1 p2 hlk PH
    go_wp2
    go_loopw [11, 29] (fun s i wr => ∃ k : Nat, k ≤ q + 1 ∧ i = .int .i64 (k : Int) ∧ s = .int .i64 (sumP f2 f3 (ps.take k)) ∧ Hid (Below w3.heap.size w3 wr)) (fun _ i _ => (q + 1) - (intOf i).toNat)
    case atStart => exact ⟨0, by omega, rfl, by simp [sumP], Below.refl _ _⟩
    case round =>
      obtain ⟨k, hk, rfl, rfl, HBEL⟩ := hrel
      have hwr := HBEL.out.size
      have HBW : Hid (Below w.heap.size w wr) := HB3.out.trans (HBEL.out.mono hw3)
      have hbd := sumP_bd (least := f2) (e := f3) (ps := ps) (fun p hp => (HPM.out p hp).1.1) he k (by rw [HPL.out]; exact hk)
      by_cases hlt : k < q + 1
      · have hka : k < ps.length := by rw [HPL.out]; exact hlt
        have HS : Hid (sumP f2 f3 (ps.take (k + 1)) = sumP f2 f3 (ps.take k) + valP f2 f3 ps[k]) := by unfold Hid; rw [take_snoc _ _ hka, sumP_snoc]
        have hpm := HPM.out _ (List.getElem_mem hka)
        obtain ⟨b2, o2, hbe, hbl, hx⟩ := (HRR.out _ HBEL.out).at_ k hka
        injection hbe with hbe
        injection hbe with e4 e5
        subst e4 e5
        have x0 := hx 0 _ rfl
        have x1 := hx 1 _ rfl
        have x2 := hx 2 _ rfl
        simp only [Nat.add_zero, Nat.zero_add] at x0 x1 x2
        generalize ps[k] = u at x0 x1 x2 HS hpm
        generalize sumP f2 f3 (ps.take k) = s at HS hbd
        obtain ⟨u1, u2, u3⟩ := u
        dsimp only at x0 x1 x2 hpm
        obtain ⟨⟨hu0, hu1⟩, hu2, hu3⟩ := hpm
        have hk0 : (0 : Int) ≤ (k : Int) := by omega
        have hk1 : (k : Int) < (q : Int) + 1 := by omega
        clear hx
        by_cases hl : f2 ≤ u3
        · have HN : Hid (sumP f2 f3 (ps.take (k + 1)) = s + max 0 (min u2 f3 - u1)) := by unfold Hid; rw [HS.out]; unfold valP; rw [if_pos hl]
          have hwr1 : IntKind.i64.wrap (min u2 f3 - u1) = min u2 f3 - u1 := IntWalk.i64_in _ (by omega)
          have hwr2 : IntKind.i64.wrap (s + max 0 (min u2 f3 - u1)) = s + max 0 (min u2 f3 - u1) := IntWalk.i64_in _ (by omega)
          clear HS
          go_wp2_with fail
          go_region_held3 (fun w' => w'.cell? ⟨wr.heap.size, 0, none⟩ = some (.int .i64 u1) ∧ w'.cell? ⟨wr.heap.size, 1, none⟩ = some (.int .i64 u2) ∧ w'.cell? ⟨wr.heap.size, 2, none⟩ = some (.int .i64 u3)) (first | (simp [go_sem]; done) | exact ⟨keepS hb4 (by simp [go_sem]), keepS hb4 (by simp [go_sem]), keepS hb4 (by simp [go_sem])⟩ | exact ⟨keepS (two_worlds hb4 hb5) (by simp [go_sem]), keepS (two_worlds hb4 hb5) (by simp [go_sem]), keepS (two_worlds hb4 hb5) (by simp [go_sem])⟩) (first | (go_at_call 68; refine (stayEnd_any u1 u2 _).mono ?_; rintro e w4 ⟨rfl, hb4⟩) | (go_at_call 87; refine (stayBegin_any u1 u2 _).mono ?_; rintro e w5 ⟨rfl, hb5⟩))
          all_goals
            have HB5 : Hid (Below w3.heap.size w3 w5) := HBEL.out.trans ((Below.trans (by (repeat (first | exact Below.refl _ _ | refine Below.drew ?_ | refine Below.drewN' ?_ _ | refine Below.alloc ?_ (by first | (simp; done) | (simp; omega)) _ | refine Below.setCell ?_ (by first | (simp; done) | (simp; omega)) _)); done) ((two_worlds hb4 hb5).mono (by simp))).mono hwr)
            clear hb4 hb5 x0 x1 x2
            (try rw [hwr1]); (try rw [hwr2])
            go_wp2
            go_roundw
            case rel => exact ⟨k + 1, by omega, by go_num, by rw [HN.out], HB5⟩
            case measure => simp [intOf]; omega
        · have HN : Hid (sumP f2 f3 (ps.take (k + 1)) = s) := by unfold Hid; rw [HS.out]; unfold valP; rw [if_neg hl]; omega
          clear HS
          go_wp2
          go_roundw
          case rel => exact ⟨k + 1, by omega, by go_num, by rw [HN.out], (by repeat (first | exact HBEL.out | refine Below.alloc ?_ (by first | omega | (simp; done) | (simp; omega)) _ | refine Below.setCell ?_ (by first | omega | (simp; done) | (simp; omega)) _))⟩
          case measure => simp [intOf]; omega
      · have hkq : k = q + 1 := by omega
        subst hkq
        have HT : Hid (ps.take (q + 1) = ps) := List.take_of_length_le (by rw [HPL.out]; omega)
        have hlt' : ¬ (q : Int) + 1 < (q : Int) + 1 := by omega
        rw [HT.out]
        go_wp2
        go_ret2
        rw [HR.out]
        exact ⟨by rw [HSUM.out]; rfl, HBW.out⟩
  · have HR : Hid (tickR t f1 f2 f3 = (0, rangeCode (leastC t f1 f2) f3 10000)) := by unfold Hid tickR; rw [if_neg e3]
    clear e3
    go_wp2_with (go_at_call 63; refine (checkRange_any _ _ _ _).mono ?_; rintro e w' ⟨rfl, rfl⟩)
    go_ret2
    rw [HR.out]
    exact ⟨rfl, HB1.out⟩
set_option maxRecDepth 20000 in
set_option maxHeartbeats 4000000 in
theorem specTicksAbove_any (w : World) {a b : Option Addr} {n c m d : Nat} (t : TZoned) (hn : Hid (t.2.1.length = n)) (ha : RI w a t.2.1) (hs : n ≤ 1048576) (hm : Hid (t.2.2.length = m)) (hb : RR 3 cChange w b t.2.2) (hs2 : m ≤ 1048576) (wf : Hid (wfZoned t)) (f1 : Int) (_wf1 : (Lit.int .i64 f1).wf = true) (f2 : Int) (_wf2 : (Lit.int .i64 f2).wf = true) (f3 : Int) (_wf3 : (Lit.int .i64 f3).wf = true) :
    Calls Try.prog 51 #[.agg #[.int .i64 t.1, .slice a n c, .slice b m d], .int .i64 f1, .int .i64 f2, .int .i64 f3] w fun e w' => e = .returned (.tuple #[.int .i64 (tickR t f1 f2 f3).1, .int .i64 (tickR t f1 f2 f3).2]) ∧ Below w.heap.size w w' := by
  have HZ : Hid (∀ w', Below w.heap.size w w' → ZArg w' a n b m t) := fun w' h => (ZArg.mk hn ha hs hm hb hs2 wf).below h
  have HB : Hid (∀ w', Below w.heap.size w w' → RR 3 cChange w' b t.2.2) := fun w' h => hb.below h
  have ZB := Lib.hid (zbox w t.1 a n c b m d)
  have LE := least_end t f1 f2 f3
  clear ha hb
  go_enter Try.func51, Try.ntmps51
  go_wp2_with fail
  refine (l09Code_any _ t a b n c m d f1 f3 _ (HZ.out _ (by repeat (first | exact Below.refl _ _ | refine Below.alloc ?_ (by simp; try omega) _ | refine Below.setCell ?_ (by simp; try omega) _))) (by simp [go_sem]) (by simp [go_sem]) (by simp [go_sem])).mono ?_
  rintro e w1 ⟨rfl, hb1⟩
  have HB1 : Hid (Below w.heap.size w w1) := Below.trans (by repeat (first | exact Below.refl _ _ | refine Below.alloc ?_ (by simp; try omega) _ | refine Below.setCell ?_ (by simp; try omega) _)) (hb1.mono (by simp))
  have Z1 : Hid (∀ w', Below w1.heap.size w1 w' → w'.cell? ⟨w.heap.size, 2, none⟩ = some (.slice b m d)) := fun w' h => (ZB.out _ (hb1.trans (h.mono hb1.size))).2.2
  have hw1 := HB1.out.size
  have hlw : w.heap.size < w1.heap.size := World.block_lt_of_cell? _ _ (Z1.out _ (Below.refl _ _))
  clear hb1
  rcases eq_ways (rangeCode (zoneC t f1) f3 10000) 0 with ⟨⟨e1, e2⟩, e3⟩ | ⟨⟨e1, e2⟩, e3⟩
  · rw [if_pos e3] at LE
    cases hl : inB f2 (-100) 100 with
    | false =>
      rw [hl] at LE
      have HR : Hid (tickR t f1 f2 f3 = (0, 2)) := by unfold Hid tickR; rw [LE]; rfl
      rw [e3]
      clear e3 e1 e2 LE
      go_wp2_with (go_at_call 70; refine (l09Least_any _ _).mono ?_; rintro e w' ⟨rfl, rfl⟩)
      go_ret2
      rw [HR.out]
      exact ⟨rfl, HB1.out⟩
    | true =>
      rw [hl, if_pos rfl] at LE
      have HR : Hid (tickR t f1 f2 f3 = (tkI f2 f3 0 0 (hisL t.2.2 f1), 0)) := by unfold Hid tickR; rw [if_pos LE]
      obtain ⟨hzp, _, he0, he1⟩ := leastC_ok LE
      have HIB := Lib.hid (his_bd hzp f1)
      have HCH : Hid (∀ i (h : i < t.2.2.length), chB t.1 t.2.2[i] = true) := hzp.2.2.2.2.2.1
      have HTK : Hid (tkI f2 f3 0 0 (hisL t.2.2 f1) = tkS f2 f3 0 0 (hisL t.2.2 f1)) := tk_same f2 f3 (by omega) _ _ _ (by omega) (hisL_rising (zon_pairs hzp) f1) (fun x hx => (HIB.out x hx).1)
      have hfew : m ≤ 60 := by have := hzp.2.2.2.1; rw [hm.out] at this; exact this
      rw [e3]
      clear e3 e1 e2 LE hzp
      go_wp2_with (go_at_call 70; refine (l09Least_any _ _).mono ?_; rintro e w' ⟨rfl, rfl⟩)
      go_loopw [11, 12, 13, 14] (fun s f l i wr => ∃ (k : Nat) (sv fv lv : Int), k ≤ m ∧ i = .int .i64 (k : Int) ∧ s = .int .i64 sv ∧ f = .int .i64 fv ∧ l = .int .i64 lv ∧ Hid (-((k : Int) * 10000) ≤ sv ∧ sv ≤ (k : Int) * 10000 ∧ 0 ≤ fv ∧ fv ≤ 10000) ∧ Hid (tkS f2 f3 0 0 (hisL t.2.2 f1) = sv + tkS f2 f3 fv lv (hisL (t.2.2.drop k) f1)) ∧ Hid (Below w1.heap.size w1 wr)) (fun _ _ _ i _ => m - (intOf i).toNat)
      case atStart => exact ⟨0, 0, 0, 0, by omega, rfl, rfl, rfl, rfl, (⟨by omega, by omega, by omega, by omega⟩ : _ ∧ _ ∧ _ ∧ _), by unfold Hid; rw [List.drop_zero]; omega, Below.refl _ _⟩
      case round =>
        obtain ⟨k, sv, fv, lv, hk, rfl, rfl, rfl, rfl, HBD, HT, HBEL⟩ := hrel
        have HBW : Hid (Below w.heap.size w wr) := HB1.out.trans (HBEL.out.mono hw1)
        have hwr := HBEL.out.size
        have p2 := Z1.out _ HBEL.out
        obtain ⟨hb0, hb1, hb2, hb3⟩ := HBD.out
        by_cases hlt : k < m
        · have hka : k < t.2.2.length := by rw [hm.out]; exact hlt
          have hch := (chB_parts (HCH.out k hka)).1
          obtain ⟨bb, ob, rfl, hbl, hx⟩ := (HB.out _ HBW.out).at_ k hka
          have x0 := hx 0 _ rfl
          have x1 := hx 1 _ rfl
          have x2 := hx 2 _ rfl
          simp only [Nat.add_zero] at x0
          have HMISS : Hid (¬ (t.2.2[k]).2.1 = f1 → hisL (t.2.2.drop k) f1 = hisL (t.2.2.drop (k + 1)) f1) := fun h => by
            unfold hisL
            rw [List.drop_eq_getElem_cons hka, List.filter_cons_of_neg (by simpa using h)]
          have HHIT : Hid ((t.2.2[k]).2.1 = f1 → hisL (t.2.2.drop k) f1 = t.2.2[k] :: hisL (t.2.2.drop (k + 1)) f1) := fun h => by
            unfold hisL
            rw [List.drop_eq_getElem_cons hka, List.filter_cons_of_pos (by simpa using h)]
          generalize t.2.2[k] = u at x0 x1 x2 HMISS HHIT hch
          obtain ⟨u1, u2, u3⟩ := u
          dsimp only at x0 x1 x2 HMISS HHIT hch
          obtain ⟨hc0, hc1⟩ := hch
          have hk0 : (0 : Int) ≤ (k : Int) := by omega
          have hk1 : (k : Int) < (m : Int) := by omega
          clear hx
          rcases eq_ways u2 f1 with ⟨⟨g1, g2⟩, g3⟩ | ⟨⟨g1, g2⟩, g3⟩
          · have HN := Lib.hid (HHIT.out g3)
            clear HMISS HHIT g3
            by_cases hte : f3 ≤ u1
            · have HT2 : Hid (tkS f2 f3 0 0 (hisL t.2.2 f1) = sv + tkS f2 f3 fv lv (hisL (t.2.2.drop (k + 1)) f1)) := by
                unfold Hid
                rw [HT.out, HN.out]
                conv => lhs; unfold tkS
                rw [if_pos hte]
              clear HT HN
              go_wp2
              go_roundw
              case rel => exact ⟨k + 1, sv, fv, lv, by omega, by go_num, rfl, rfl, rfl, (⟨by omega, by omega, by omega, by omega⟩ : _ ∧ _ ∧ _ ∧ _), HT2, (by repeat (first | exact HBEL.out | refine Below.alloc ?_ (by first | omega | (simp; done) | (simp; omega)) _ | refine Below.setCell ?_ (by first | omega | (simp; done) | (simp; omega)) _))⟩
              case measure => simp [intOf]; omega
            · by_cases hlv : f2 ≤ lv
              · have HT2 : Hid (tkS f2 f3 0 0 (hisL t.2.2 f1) = (sv + (u1 - fv)) + tkS f2 f3 u1 u3 (hisL (t.2.2.drop (k + 1)) f1)) := by
                  unfold Hid
                  rw [HT.out, HN.out]
                  conv => lhs; unfold tkS
                  rw [if_neg hte, if_pos hlv]
                  dsimp only
                  omega
                clear HT HN
                go_wp2
                go_roundw
                case rel => exact ⟨k + 1, sv + (u1 - fv), u1, u3, by omega, by go_num, rfl, rfl, rfl, (⟨by omega, by omega, by omega, by omega⟩ : _ ∧ _ ∧ _ ∧ _), HT2, (by repeat (first | exact HBEL.out | refine Below.alloc ?_ (by first | omega | (simp; done) | (simp; omega)) _ | refine Below.setCell ?_ (by first | omega | (simp; done) | (simp; omega)) _))⟩
                case measure => simp [intOf]; omega
              · have HT2 : Hid (tkS f2 f3 0 0 (hisL t.2.2 f1) = sv + tkS f2 f3 u1 u3 (hisL (t.2.2.drop (k + 1)) f1)) := by
                  unfold Hid
                  rw [HT.out, HN.out]
                  conv => lhs; unfold tkS
                  rw [if_neg hte, if_neg hlv]
                  dsimp only
                  omega
                clear HT HN
                go_wp2
                go_roundw
                case rel => exact ⟨k + 1, sv, u1, u3, by omega, by go_num, rfl, rfl, rfl, (⟨by omega, by omega, by omega, by omega⟩ : _ ∧ _ ∧ _ ∧ _), HT2, (by repeat (first | exact HBEL.out | refine Below.alloc ?_ (by first | omega | (simp; done) | (simp; omega)) _ | refine Below.setCell ?_ (by first | omega | (simp; done) | (simp; omega)) _))⟩
                case measure => simp [intOf]; omega
          · have HN := Lib.hid (HMISS.out g3)
            have HT2 : Hid (tkS f2 f3 0 0 (hisL t.2.2 f1) = sv + tkS f2 f3 fv lv (hisL (t.2.2.drop (k + 1)) f1)) := by unfold Hid; rw [HT.out, HN.out]
            clear HMISS HHIT g3 HT HN
            go_wp2
            go_roundw
            case rel => exact ⟨k + 1, sv, fv, lv, by omega, by go_num, rfl, rfl, rfl, (⟨by omega, by omega, by omega, by omega⟩ : _ ∧ _ ∧ _ ∧ _), HT2, (by repeat (first | exact HBEL.out | refine Below.alloc ?_ (by first | omega | (simp; done) | (simp; omega)) _ | refine Below.setCell ?_ (by first | omega | (simp; done) | (simp; omega)) _))⟩
            case measure => simp [intOf]; omega
        · have HE : Hid (tkS f2 f3 0 0 (hisL t.2.2 f1) = sv + if f2 ≤ lv then f3 - fv else 0) := by
            unfold Hid
            rw [HT.out, List.drop_of_length_le (by rw [hm.out]; omega)]
            rfl
          by_cases hlv : f2 ≤ lv
          · rw [if_pos hlv] at HE
            clear HT
            go_wp2
            go_ret2
            rw [HR.out, HTK.out]
            exact ⟨by rw [HE.out]; rfl, HBW.out⟩
          · rw [if_neg hlv] at HE
            clear HT
            go_wp2
            go_ret2
            rw [HR.out, HTK.out]
            exact ⟨by rw [HE.out, Int.add_zero]; rfl, HBW.out⟩
  · rw [if_neg e3] at LE
    have HR : Hid (tickR t f1 f2 f3 = (0, rangeCode (zoneC t f1) f3 10000)) := by unfold Hid tickR; rw [LE, if_neg e3]
    clear e3 LE
    go_wp2
    go_ret2
    rw [HR.out]
    exact ⟨rfl, HB1.out⟩
end Go.Proofs.Ytfejgckimlgopaa
