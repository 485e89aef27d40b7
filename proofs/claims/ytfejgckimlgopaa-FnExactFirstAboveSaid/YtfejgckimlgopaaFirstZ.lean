/-
  FirstAbove: the model's walk (by changes) and the program's (by phases).
-/
import Derived.Test.YtfejgckimlgopaaTicksZ
namespace Go.Proofs.Ytfejgckimlgopaa
open Go.RowKit

noncomputable def firstC (t : TZoned) (z l fr tk : Int) : Int := if rangeCode (leastC t z l) fr 10000 = 0 then (if inB tk 1 10000 = true then 0 else 2) else rangeCode (leastC t z l) fr 10000
def optR : Option Int → Int × Int
  | some x => (x, 0)
  | none => (0, 3)
noncomputable def firstR (t : TZoned) (z l fr tk : Int) : Int × Int := if firstC t z l fr tk = 0 then optR (faI l tk fr 0 (hisL t.2.2 z)) else (0, firstC t z l fr tk)
def faP (least ticks : Int) : Int → List C3 → Option Int
  | _, [] => none
  | f, p :: r => if p.2.2 < least then faP least ticks (max f p.2.1) r else if ticks ≤ p.2.1 - f then some f else faP least ticks f r
theorem faP_phs (least ticks : Int) : ∀ (h : List C3) (s f l : Int), faP least ticks f (phs s l h) = faI least ticks f l h
  | [], s, f, l => rfl
  | c :: h, s, f, l => by
    unfold phs faI
    show (if l < least then faP least ticks (max f c.1) (phs c.1 c.2.2 h) else if ticks ≤ c.1 - f then some f else faP least ticks f (phs c.1 c.2.2 h)) = _
    rw [faP_phs least ticks h, faP_phs least ticks h]
theorem rising_split {h : List C3} (hr : Rising h) (t : Int) : h = h.filter (fun c => decide (c.1 ≤ t)) ++ h.filter (fun c => decide (t < c.1)) := by
  induction h with
  | nil => rfl
  | cons c h ih =>
    obtain ⟨h1, h2⟩ := List.pairwise_cons.1 hr
    by_cases e : c.1 ≤ t
    · rw [List.filter_cons_of_pos (by simpa using e), List.filter_cons_of_neg (by simp; omega), List.cons_append, ← ih h2]
    · have e1 : (c :: h).filter (fun c => decide (c.1 ≤ t)) = [] := by
        rw [List.filter_eq_nil_iff]
        intro x hx
        rcases List.mem_cons.1 hx with rfl | hx
        · simpa using e
        · have := h1 x hx
          simp; omega
      have e2 : (c :: h).filter (fun c => decide (t < c.1)) = c :: h := by
        rw [List.filter_eq_self]
        intro x hx
        rcases List.mem_cons.1 hx with rfl | hx
        · simp; omega
        · have := h1 x hx
          simp; omega
      rw [e1, e2, List.nil_append]
/-- The changes of a zone behind a tick. -/
def gL (cs : List C3) (z fr : Int) : List C3 := cs.filter (fun c => decide (fr < c.1) && c.2.1 == z)
theorem fa_model {t : TZoned} (h : ZonP t) {z l fr tk : Int} (h1 : 0 ≤ fr ∧ fr ≤ 10000) (h2 : 1 ≤ tk ∧ tk ≤ 10000) :
    faI l tk fr 0 (hisL t.2.2 z) = faS l tk (if l ≤ levH (hisL t.2.2 z) fr then fr else -1) (gL t.2.2 z fr) := by
  have hr := hisL_rising (zon_pairs h) z
  have hb := his_bd h z
  have hs := rising_split hr fr
  have hg : (hisL t.2.2 z).filter (fun c => decide (fr < c.1)) = gL t.2.2 z fr := by
    unfold hisL gL
    rw [List.filter_filter]
  conv => lhs; rw [hs]
  rw [fa_skip l tk fr h2.1 _ _ _ (fun c hc => by simpa using (List.mem_filter.1 hc).2), hg]
  have e : (((hisL t.2.2 z).filter (fun c => decide (c.1 ≤ fr))).getLast?.map (·.2.2)).getD 0 = levH (hisL t.2.2 z) fr := rfl
  rw [e]
  rw [← hg]
  refine fa_same l tk h2 _ _ _ _ h1.1 h1.2 (hr.filter _) (fun c hc => ?_) ?_
  · obtain ⟨hc1, hc2⟩ := List.mem_filter.1 hc
    have := hb c hc1
    have h3 : fr < c.1 := by simpa using hc2
    omega
  · by_cases e2 : l ≤ levH (hisL t.2.2 z) fr
    · rw [if_pos e2]; exact .inl ⟨rfl, e2⟩
    · rw [if_neg e2]; exact .inr ⟨rfl, by omega⟩
theorem gL_hit {cs : List C3} {z fr : Int} {k : Nat} (hk : k < cs.length) (h1 : fr < (cs[k]).1) (h2 : (cs[k]).2.1 = z) : gL (cs.drop k) z fr = cs[k] :: gL (cs.drop (k + 1)) z fr := by
  unfold gL
  rw [List.drop_eq_getElem_cons hk, List.filter_cons_of_pos (by simp [h1, h2])]
theorem gL_miss {cs : List C3} {z fr : Int} {k : Nat} (hk : k < cs.length) (h : (cs[k]).1 ≤ fr ∨ ¬ (cs[k]).2.1 = z) : gL (cs.drop k) z fr = gL (cs.drop (k + 1)) z fr := by
  unfold gL
  rw [List.drop_eq_getElem_cons hk, List.filter_cons_of_neg]
  simp only [Bool.and_eq_true, decide_eq_true_eq, beq_iff_eq]
  rintro ⟨h3, h4⟩
  rcases h with h | h
  · omega
  · exact h h4
theorem firstC_ok {t : TZoned} {z l fr tk : Int} (h : firstC t z l fr tk = 0) : rangeCode (leastC t z l) fr 10000 = 0 ∧ inB tk 1 10000 = true := by
  unfold firstC at h
  by_cases h1 : rangeCode (leastC t z l) fr 10000 = 0
  · rw [if_pos h1] at h
    refine ⟨h1, ?_⟩
    by_cases h2 : inB tk 1 10000 = true
    · exact h2
    · rw [if_neg h2] at h; omega
  · rw [if_neg h1] at h; exact absurd h h1
set_option maxRecDepth 20000 in
set_option maxHeartbeats 4000000 in
theorem implFirstAbove_any (w : World) {a b : Option Addr} {n c m d : Nat} (t : TZoned) (hn : Hid (t.2.1.length = n)) (ha : RI w a t.2.1) (hs : n ≤ 1048576) (hm : Hid (t.2.2.length = m)) (hb : RR 3 cChange w b t.2.2) (hs2 : m ≤ 1048576) (wf : Hid (wfZoned t)) (f1 : Int) (wf1 : (Lit.int .i64 f1).wf = true) (f2 : Int) (_wf2 : (Lit.int .i64 f2).wf = true) (f3 : Int) (_wf3 : (Lit.int .i64 f3).wf = true) (f4 : Int) (_wf4 : (Lit.int .i64 f4).wf = true) :
    Calls Try.prog 17 #[.agg #[.int .i64 t.1, .slice a n c, .slice b m d], .int .i64 f1, .int .i64 f2, .int .i64 f3, .int .i64 f4] w fun e w' => e = .returned (.tuple #[.int .i64 (firstR t f1 f2 f3 f4).1, .int .i64 (firstR t f1 f2 f3 f4).2]) ∧ Below w.heap.size w w' := by
  have HZ : Hid (∀ w', Below w.heap.size w w' → ZArg w' a n b m t) := fun w' h => (ZArg.mk hn ha hs hm hb hs2 wf).below h
  have ZB := Lib.hid (zbox w t.1 a n c b m d)
  clear ha hb
  go_enter Try.func17, Try.ntmps17
  go_wp2_with fail
  refine (checkLeast_any t a b n c m d f1 f2 _ (HZ.out _ (by repeat (first | exact Below.refl _ _ | refine Below.alloc ?_ (by simp; try omega) _ | refine Below.setCell ?_ (by simp; try omega) _)))).mono ?_
  rintro e w1 ⟨rfl, hb1⟩
  have HB1 : Hid (Below w.heap.size w w1) := Below.trans (by repeat (first | exact Below.refl _ _ | refine Below.alloc ?_ (by simp; try omega) _ | refine Below.setCell ?_ (by simp; try omega) _)) (hb1.mono (by simp))
  have hw1 := HB1.out.size
  obtain ⟨p0, p1, p2⟩ := ZB.out _ hb1
  clear hb1
  rcases eq_ways (rangeCode (leastC t f1 f2) f3 10000) 0 with ⟨⟨e1, e2⟩, e3⟩ | ⟨⟨e1, e2⟩, e3⟩
  · cases ht : inB f4 1 10000 with
    | false =>
      have HR : Hid (firstR t f1 f2 f3 f4 = (0, 2)) := by
        have : firstC t f1 f2 f3 f4 = 2 := by unfold firstC; rw [if_pos e3, ht]; rfl
        unfold Hid firstR; rw [this]; rfl
      go_wp2_with fail
      refine (checkRange_any _ _ _ _).mono ?_
      rintro e w' ⟨rfl, rfl⟩
      rw [e3]
      clear e3 e1 e2
      go_wp2_with (go_at_call 65; refine (isWithin_any _ _ _ _).mono ?_; rintro e w' ⟨rfl, rfl⟩)
      go_ret2
      rw [HR.out]
      exact ⟨rfl, HB1.out⟩
    | true =>
      have HR : Hid (firstR t f1 f2 f3 f4 = optR (faI f2 f4 f3 0 (hisL t.2.2 f1))) := by
        have : firstC t f1 f2 f3 f4 = 0 := by unfold firstC; rw [if_pos e3, ht]; rfl
        unfold Hid firstR; rw [if_pos this]
      obtain ⟨hzp, _, he⟩ := leastC_ok e3
      have htk : 1 ≤ f4 ∧ f4 ≤ 10000 := by unfold inB at ht; simpa using ht
      have HPW := Lib.hid (zon_pairs hzp)
      have HIB := Lib.hid (his_bd hzp f1)
      have hfew : (hisL t.2.2 f1).length ≤ 60 := Nat.le_trans (hisL_len _ _) hzp.2.2.2.1
      have HO := Lib.hid (historiesOf_any t a b n c m d w1 (HZ.out _ HB1.out))
      go_wp2_with fail
      refine (checkRange_any _ _ _ _).mono ?_
      rintro e w' ⟨rfl, rfl⟩
      rw [e3]
      clear e3 e1 e2 hzp
      go_wp2_with (go_at_call 65; refine (isWithin_any _ _ _ _).mono ?_; rintro e w' ⟨rfl, rfl⟩)
      refine HO.out.mono ?_
      rintro e w2 ⟨rfl, ⟨V, hV⟩, hb2⟩
      have HB2 : Hid (Below w.heap.size w w2) := HB1.out.trans (hb2.mono hw1)
      obtain ⟨ah, ch, hv, hr⟩ := hV.2.shape f1
      have hlk := hV.1.look Try.underlying2 Try.underlying85 (zeroHist w2) wf1
      rw [hv] at hlk
      obtain ⟨q, hq⟩ : ∃ q, (hisL t.2.2 f1).length = q := ⟨_, rfl⟩
      rw [hq] at hlk hfew
      have HQ := Lib.hid hq
      have PH := Lib.hid (phases_any (hisL t.2.2 f1) ah q ch w2 HQ hfew hr)
      have hw2 := HB2.out.size
      clear hV hb2 hr hv hq HO
      go_wp2_with fail
      refine PH.out.mono ?_
      rintro e w3 ⟨⟨g, cg, rfl, hrr⟩, hb3⟩
      have HB3 : Hid (Below w.heap.size w w3) := HB2.out.trans (hb3.mono hw2)
      have hw3 := HB3.out.size
      have HRR : Hid (∀ W, Below w3.heap.size w3 W → RR 3 cChange W (some ⟨g, 0, none⟩) (phs 0 0 (hisL t.2.2 f1))) := fun W h => hrr.below h
      have HPL : Hid ((phs 0 0 (hisL t.2.2 f1)).length = q + 1) := (phs_len _ _ _).trans (by rw [HQ.out])
      have HPM := Lib.hid (phs_mem (hisL t.2.2 f1) 0 0 (by omega) (by omega) HIB.out)
      have HFA : Hid (faI f2 f4 f3 0 (hisL t.2.2 f1) = faP f2 f4 f3 (phs 0 0 (hisL t.2.2 f1))) := (faP_phs _ _ _ _ _ _).symm
      generalize hps : phs 0 0 (hisL t.2.2 f1) = ps at HRR HPL HPM HFA
      clear hps hrr hb3 p0 p1 p2 hlk PH
      go_wp2
      go_loopw [13, 39] (fun s i wr => ∃ (k : Nat) (fv : Int), k ≤ q + 1 ∧ i = .int .i64 (k : Int) ∧ s = .int .i64 fv ∧ Hid (0 ≤ fv ∧ fv ≤ 9223372036854775807) ∧ Hid (faI f2 f4 f3 0 (hisL t.2.2 f1) = faP f2 f4 fv (ps.drop k)) ∧ Hid (Below w3.heap.size w3 wr)) (fun _ i _ => (q + 1) - (intOf i).toNat)
      case atStart => exact ⟨0, f3, by omega, rfl, rfl, (⟨by omega, by omega⟩ : _ ∧ _), by unfold Hid; rw [List.drop_zero]; exact HFA.out, Below.refl _ _⟩
      case round =>
        obtain ⟨k, fv, hk, rfl, rfl, HFB, HT, HBEL⟩ := hrel
        have hwr := HBEL.out.size
        have HBW : Hid (Below w.heap.size w wr) := HB3.out.trans (HBEL.out.mono hw3)
        obtain ⟨hf0, hf1⟩ := HFB.out
        by_cases hlt : k < q + 1
        · have hka : k < ps.length := by rw [HPL.out]; exact hlt
          have HD : Hid (ps.drop k = ps[k] :: ps.drop (k + 1)) := List.drop_eq_getElem_cons hka
          have hpm := HPM.out _ (List.getElem_mem hka)
          obtain ⟨b2, o2, hbe, hbl, hx⟩ := (HRR.out _ HBEL.out).at_ k hka
          injection hbe with hbe
          injection hbe with e4 e5
          subst e4 e5
          have x0 := hx 0 _ rfl
          have x1 := hx 1 _ rfl
          have x2 := hx 2 _ rfl
          simp only [Nat.add_zero, Nat.zero_add] at x0 x1 x2
          generalize ps[k] = u at x0 x1 x2 HD hpm
          obtain ⟨u1, u2, u3⟩ := u
          dsimp only at x0 x1 x2 hpm
          obtain ⟨⟨hu0, hu1⟩, hu2, hu3⟩ := hpm
          have hk0 : (0 : Int) ≤ (k : Int) := by omega
          have hk1 : (k : Int) < (q : Int) + 1 := by omega
          have SE := fun W => Lib.hid (stayEnd_any u1 u2 W)
          clear hx
          by_cases hl : u3 < f2
          · have HT2 : Hid (faI f2 f4 f3 0 (hisL t.2.2 f1) = faP f2 f4 (max fv u2) (ps.drop (k + 1))) := by
              unfold Hid
              rw [HT.out, HD.out]
              conv => lhs; unfold faP
              rw [if_pos hl]
            clear HT HD
            go_wp2_with fail
            refine (SE _).out.mono ?_
            rintro e w4 ⟨rfl, hb4⟩
            have HB4 : Hid (Below w3.heap.size w3 w4) := Below.trans (by repeat (first | exact HBEL.out | refine Below.alloc ?_ (by first | omega | (simp; done) | (simp; omega)) _ | refine Below.setCell ?_ (by first | omega | (simp; done) | (simp; omega)) _)) (hb4.mono (by simp; omega))
            clear hb4 x0 x1 x2
            go_wp2
            go_roundw
            case rel => exact ⟨k + 1, max fv u2, by omega, by go_num, rfl, (⟨by omega, by omega⟩ : _ ∧ _), HT2, HB4⟩
            case measure => simp [intOf]; omega
          · by_cases hg : f4 ≤ u2 - fv
            · have HT2 : Hid (faI f2 f4 f3 0 (hisL t.2.2 f1) = some fv) := by
                unfold Hid
                rw [HT.out, HD.out]
                conv => lhs; unfold faP
                rw [if_neg hl, if_pos hg]
              clear HT HD
              go_wp2_with fail
              refine (SE _).out.mono ?_
              rintro e w4 ⟨rfl, hb4⟩
              have HB4 : Hid (Below w3.heap.size w3 w4) := Below.trans (by repeat (first | exact HBEL.out | refine Below.alloc ?_ (by first | omega | (simp; done) | (simp; omega)) _ | refine Below.setCell ?_ (by first | omega | (simp; done) | (simp; omega)) _)) (hb4.mono (by simp; omega))
              clear hb4 x0 x1 x2
              go_wp2
              go_ret2
              rw [HR.out, HT2.out]
              exact ⟨rfl, HB3.out.trans (HB4.out.mono hw3)⟩
            · have HT2 : Hid (faI f2 f4 f3 0 (hisL t.2.2 f1) = faP f2 f4 fv (ps.drop (k + 1))) := by
                unfold Hid
                rw [HT.out, HD.out]
                conv => lhs; unfold faP
                rw [if_neg hl, if_neg hg]
              clear HT HD
              go_wp2_with fail
              refine (SE _).out.mono ?_
              rintro e w4 ⟨rfl, hb4⟩
              have HB4 : Hid (Below w3.heap.size w3 w4) := Below.trans (by repeat (first | exact HBEL.out | refine Below.alloc ?_ (by first | omega | (simp; done) | (simp; omega)) _ | refine Below.setCell ?_ (by first | omega | (simp; done) | (simp; omega)) _)) (hb4.mono (by simp; omega))
              clear hb4 x0 x1 x2
              go_wp2
              go_roundw
              case rel => exact ⟨k + 1, fv, by omega, by go_num, rfl, HFB, HT2, HB4⟩
              case measure => simp [intOf]; omega
        · have hkq : k = q + 1 := by omega
          subst hkq
          have HE : Hid (faI f2 f4 f3 0 (hisL t.2.2 f1) = none) := by
            unfold Hid
            rw [HT.out, List.drop_of_length_le (by rw [HPL.out]; omega)]
            rfl
          have hlt' : ¬ (q : Int) + 1 < (q : Int) + 1 := by omega
          clear HT
          go_wp2
          go_ret2
          rw [HR.out, HE.out]
          exact ⟨rfl, HBW.out⟩
  · have HR : Hid (firstR t f1 f2 f3 f4 = (0, rangeCode (leastC t f1 f2) f3 10000)) := by
      have : firstC t f1 f2 f3 f4 = rangeCode (leastC t f1 f2) f3 10000 := by unfold firstC; rw [if_neg e3]
      unfold Hid firstR; rw [this, if_neg e3]
    clear e3
    go_wp2_with (go_at_call 63; refine (checkRange_any _ _ _ _).mono ?_; rintro e w' ⟨rfl, rfl⟩)
    go_ret2
    rw [HR.out]
    exact ⟨rfl, HB1.out⟩
set_option maxRecDepth 20000 in
set_option maxHeartbeats 4000000 in
theorem specFirstAbove_any (w : World) {a b : Option Addr} {n c m d : Nat} (t : TZoned) (hn : Hid (t.2.1.length = n)) (ha : RI w a t.2.1) (hs : n ≤ 1048576) (hm : Hid (t.2.2.length = m)) (hb : RR 3 cChange w b t.2.2) (hs2 : m ≤ 1048576) (wf : Hid (wfZoned t)) (f1 : Int) (_wf1 : (Lit.int .i64 f1).wf = true) (f2 : Int) (_wf2 : (Lit.int .i64 f2).wf = true) (f3 : Int) (_wf3 : (Lit.int .i64 f3).wf = true) (f4 : Int) (_wf4 : (Lit.int .i64 f4).wf = true) :
    Calls Try.prog 18 #[.agg #[.int .i64 t.1, .slice a n c, .slice b m d], .int .i64 f1, .int .i64 f2, .int .i64 f3, .int .i64 f4] w fun e w' => e = .returned (.tuple #[.int .i64 (firstR t f1 f2 f3 f4).1, .int .i64 (firstR t f1 f2 f3 f4).2]) ∧ Below w.heap.size w w' := by
  have HZ : Hid (∀ w', Below w.heap.size w w' → ZArg w' a n b m t) := fun w' h => (ZArg.mk hn ha hs hm hb hs2 wf).below h
  have HB : Hid (∀ w', Below w.heap.size w w' → RR 3 cChange w' b t.2.2) := fun w' h => hb.below h
  have ZB := Lib.hid (zbox w t.1 a n c b m d)
  have LE := least_end t f1 f2 f3
  clear ha hb
  go_enter Try.func18, Try.ntmps18
  go_wp2_with fail
  refine (l09Code_any _ t a b n c m d f1 f3 _ (HZ.out _ (by repeat (first | exact Below.refl _ _ | refine Below.alloc ?_ (by simp; try omega) _ | refine Below.setCell ?_ (by simp; try omega) _))) (by simp [go_sem]) (by simp [go_sem]) (by simp [go_sem])).mono ?_
  rintro e w1 ⟨rfl, hb1⟩
  have HB1 : Hid (Below w.heap.size w w1) := Below.trans (by repeat (first | exact Below.refl _ _ | refine Below.alloc ?_ (by simp; try omega) _ | refine Below.setCell ?_ (by simp; try omega) _)) (hb1.mono (by simp))
  have Z1 : Hid (∀ w', Below w1.heap.size w1 w' → w'.cell? ⟨w.heap.size, 2, none⟩ = some (.slice b m d)) := fun w' h => (ZB.out _ (hb1.trans (h.mono hb1.size))).2.2
  have hw1 := HB1.out.size
  have p2 := Z1.out _ (Below.refl _ _)
  have hlw : w.heap.size < w1.heap.size := World.block_lt_of_cell? _ _ p2
  clear hb1
  rcases eq_ways (rangeCode (zoneC t f1) f3 10000) 0 with ⟨⟨e1, e2⟩, e3⟩ | ⟨⟨e1, e2⟩, e3⟩
  · rw [if_pos e3] at LE
    cases hl : inB f2 (-100) 100 with
    | false =>
      rw [hl] at LE
      have HR : Hid (firstR t f1 f2 f3 f4 = (0, 2)) := by
        have : firstC t f1 f2 f3 f4 = 2 := by unfold firstC; rw [LE]; rfl
        unfold Hid firstR; rw [this]; rfl
      rw [e3]
      clear e3 e1 e2 LE
      go_wp2_with (first | (go_at_call 70; refine (l09Least_any _ _).mono ?_; rintro e w' ⟨rfl, rfl⟩) | (go_at_call 71; refine (l00In_any _ _ _ _).mono ?_; rintro e w' ⟨rfl, rfl⟩))
      go_ret2
      rw [HR.out]
      exact ⟨rfl, HB1.out⟩
    | true =>
      rw [hl, if_pos rfl] at LE
      cases ht : inB f4 1 10000 with
      | false =>
        have HR : Hid (firstR t f1 f2 f3 f4 = (0, 2)) := by
          have : firstC t f1 f2 f3 f4 = 2 := by unfold firstC; rw [if_pos LE, ht]; rfl
          unfold Hid firstR; rw [this]; rfl
        rw [e3]
        clear e3 e1 e2 LE
        go_wp2_with (first | (go_at_call 70; refine (l09Least_any _ _).mono ?_; rintro e w' ⟨rfl, rfl⟩) | (go_at_call 71; refine (l00In_any _ _ _ _).mono ?_; rintro e w' ⟨rfl, rfl⟩))
        go_ret2
        rw [HR.out]
        exact ⟨rfl, HB1.out⟩
      | true =>
        have HR : Hid (firstR t f1 f2 f3 f4 = optR (faI f2 f4 f3 0 (hisL t.2.2 f1))) := by
          have : firstC t f1 f2 f3 f4 = 0 := by unfold firstC; rw [if_pos LE, ht]; rfl
          unfold Hid firstR; rw [if_pos this]
        obtain ⟨hzp, _, he⟩ := leastC_ok LE
        have htk : 1 ≤ f4 ∧ f4 ≤ 10000 := by unfold inB at ht; simpa using ht
        have HCH : Hid (∀ i (h : i < t.2.2.length), chB t.1 t.2.2[i] = true) := hzp.2.2.2.2.2.1
        have hfew : m ≤ 60 := by have := hzp.2.2.2.1; rw [hm.out] at this; exact this
        have LV := Lib.hid (l09Level_any w.heap.size t b m d f1 f3 w1 hm (HB.out _ HB1.out) hs2 (zon_pairs hzp) p2)
        have HFM := Lib.hid (fa_model hzp (z := f1) (l := f2) he htk)
        obtain ⟨he0, he1⟩ := he
        obtain ⟨ht0, ht1⟩ := htk
        generalize levH (hisL t.2.2 f1) f3 = lv at LV HFM
        obtain ⟨b0, hb0⟩ : ∃ b0 : Int, (if f2 ≤ lv then f3 else -1) = b0 := ⟨_, rfl⟩
        have hbb : -1 ≤ b0 ∧ b0 ≤ 10000 := by rw [← hb0]; split <;> omega
        rw [hb0] at HFM
        rw [e3]
        clear e3 e1 e2 LE hzp
        have LOOP : Hid (-1 ≤ b0 ∧ b0 ≤ 10000) := hbb
        by_cases hlv : f2 ≤ lv
        · rw [if_pos hlv] at hb0
          subst hb0
          go_wp2_with (first | (go_at_call 70; refine (l09Least_any _ _).mono ?_; rintro e w' ⟨rfl, rfl⟩) | (go_at_call 71; refine (l00In_any _ _ _ _).mono ?_; rintro e w' ⟨rfl, rfl⟩) | (go_at_call 72; refine LV.out.mono ?_; rintro e w' ⟨rfl, rfl⟩))
          clear p2 hlv LV
          go_loopw [13, 14] (fun s i wr => ∃ (k : Nat) (bv : Int), k ≤ m ∧ i = .int .i64 (k : Int) ∧ s = .int .i64 bv ∧ Hid (-1 ≤ bv ∧ bv ≤ 10000) ∧ Hid (faI f2 f4 f3 0 (hisL t.2.2 f1) = faS f2 f4 bv (gL (t.2.2.drop k) f1 f3)) ∧ Hid (Below w1.heap.size w1 wr)) (fun _ i _ => m - (intOf i).toNat)
          case atStart => exact ⟨0, f3, by omega, rfl, rfl, LOOP, by unfold Hid; rw [List.drop_zero]; exact HFM.out, Below.refl _ _⟩
          case round =>
            obtain ⟨k, bv, hk, rfl, rfl, HBV, HT, HBEL⟩ := hrel
            have HBW : Hid (Below w.heap.size w wr) := HB1.out.trans (HBEL.out.mono hw1)
            have hwr := HBEL.out.size
            have p2 := Z1.out _ HBEL.out
            obtain ⟨hv0, hv1⟩ := HBV.out
            by_cases hlt : k < m
            · have hka : k < t.2.2.length := by rw [hm.out]; exact hlt
              have hch := (chB_parts (HCH.out k hka)).1
              obtain ⟨bb, ob, rfl, hbl, hx⟩ := (HB.out _ HBW.out).at_ k hka
              have x0 := hx 0 _ rfl
              have x1 := hx 1 _ rfl
              have x2 := hx 2 _ rfl
              simp only [Nat.add_zero] at x0
              have HMISS : Hid ((t.2.2[k]).1 ≤ f3 ∨ ¬ (t.2.2[k]).2.1 = f1 → gL (t.2.2.drop k) f1 f3 = gL (t.2.2.drop (k + 1)) f1 f3) := fun h => gL_miss hka h
              have HHIT : Hid (f3 < (t.2.2[k]).1 → (t.2.2[k]).2.1 = f1 → gL (t.2.2.drop k) f1 f3 = t.2.2[k] :: gL (t.2.2.drop (k + 1)) f1 f3) := fun h1 h2 => gL_hit hka h1 h2
              generalize t.2.2[k] = u at x0 x1 x2 HMISS HHIT hch
              obtain ⟨u1, u2, u3⟩ := u
              dsimp only at x0 x1 x2 HMISS HHIT hch
              obtain ⟨hc0, hc1⟩ := hch
              have hk0 : (0 : Int) ≤ (k : Int) := by omega
              have hk1 : (k : Int) < (m : Int) := by omega
              clear hx
              rcases eq_ways u2 f1 with ⟨⟨g1, g2⟩, g3⟩ | ⟨⟨g1, g2⟩, g3⟩
              · by_cases hte : u1 ≤ f3
                · have HN := Lib.hid (HMISS.out (.inl hte))
                  have HT2 : Hid (faI f2 f4 f3 0 (hisL t.2.2 f1) = faS f2 f4 bv (gL (t.2.2.drop (k + 1)) f1 f3)) := by unfold Hid; rw [HT.out, HN.out]
                  clear HMISS HHIT g3 HT HN
                  go_wp2
                  go_roundw
                  case rel => exact ⟨k + 1, bv, by omega, by go_num, rfl, HBV, HT2, (by repeat (first | exact HBEL.out | refine Below.alloc ?_ (by first | omega | (simp; done) | (simp; omega)) _ | refine Below.setCell ?_ (by first | omega | (simp; done) | (simp; omega)) _))⟩
                  case measure => simp [intOf]; omega
                · have HN := Lib.hid (HHIT.out (by omega) g3)
                  have HST : Hid (faI f2 f4 f3 0 (hisL t.2.2 f1) = if 0 ≤ bv ∧ f4 ≤ u1 - bv then some bv else faS f2 f4 (if u3 < f2 then -1 else if bv < 0 then u1 else bv) (gL (t.2.2.drop (k + 1)) f1 f3)) := by
                    unfold Hid; rw [HT.out, HN.out]; rfl
                  clear HMISS HHIT g3 HT HN
                  by_cases hb : 0 ≤ bv
                  · by_cases hq : f4 ≤ u1 - bv
                    · have HE : Hid (faI f2 f4 f3 0 (hisL t.2.2 f1) = some bv) := by unfold Hid; rw [HST.out, if_pos ⟨hb, hq⟩]
                      clear HST
                      go_wp2
                      go_ret2
                      rw [HR.out, HE.out]
                      exact ⟨rfl, (by repeat (first | exact HBW.out | refine Below.alloc ?_ (by first | omega | (simp; done) | (simp; omega)) _ | refine Below.setCell ?_ (by first | omega | (simp; done) | (simp; omega)) _))⟩
                    · have hbn : ¬ bv < 0 := by omega
                      have HE : Hid (faI f2 f4 f3 0 (hisL t.2.2 f1) = faS f2 f4 (if u3 < f2 then -1 else bv) (gL (t.2.2.drop (k + 1)) f1 f3)) := by unfold Hid; rw [HST.out, if_neg (fun h => hq h.2), if_neg hbn]
                      clear HST
                      by_cases hu : u3 < f2
                      · rw [if_pos hu] at HE
                        go_wp2
                        go_roundw
                        case rel => exact ⟨k + 1, -1, by omega, by go_num, rfl, (⟨by omega, by omega⟩ : _ ∧ _), HE, (by repeat (first | exact HBEL.out | refine Below.alloc ?_ (by first | omega | (simp; done) | (simp; omega)) _ | refine Below.setCell ?_ (by first | omega | (simp; done) | (simp; omega)) _))⟩
                        case measure => simp [intOf]; omega
                      · rw [if_neg hu] at HE
                        go_wp2
                        go_roundw
                        case rel => exact ⟨k + 1, bv, by omega, by go_num, rfl, HBV, HE, (by repeat (first | exact HBEL.out | refine Below.alloc ?_ (by first | omega | (simp; done) | (simp; omega)) _ | refine Below.setCell ?_ (by first | omega | (simp; done) | (simp; omega)) _))⟩
                        case measure => simp [intOf]; omega
                  · have hbn : bv < 0 := by omega
                    have HE : Hid (faI f2 f4 f3 0 (hisL t.2.2 f1) = faS f2 f4 (if u3 < f2 then -1 else u1) (gL (t.2.2.drop (k + 1)) f1 f3)) := by unfold Hid; rw [HST.out, if_neg (fun h => hb h.1), if_pos hbn]
                    clear HST
                    by_cases hu : u3 < f2
                    · rw [if_pos hu] at HE
                      go_wp2
                      go_roundw
                      case rel => exact ⟨k + 1, -1, by omega, by go_num, rfl, (⟨by omega, by omega⟩ : _ ∧ _), HE, (by repeat (first | exact HBEL.out | refine Below.alloc ?_ (by first | omega | (simp; done) | (simp; omega)) _ | refine Below.setCell ?_ (by first | omega | (simp; done) | (simp; omega)) _))⟩
                      case measure => simp [intOf]; omega
                    · rw [if_neg hu] at HE
                      go_wp2
                      go_roundw
                      case rel => exact ⟨k + 1, u1, by omega, by go_num, rfl, (⟨by omega, by omega⟩ : _ ∧ _), HE, (by repeat (first | exact HBEL.out | refine Below.alloc ?_ (by first | omega | (simp; done) | (simp; omega)) _ | refine Below.setCell ?_ (by first | omega | (simp; done) | (simp; omega)) _))⟩
                      case measure => simp [intOf]; omega
              · have HN := Lib.hid (HMISS.out (.inr g3))
                have HT2 : Hid (faI f2 f4 f3 0 (hisL t.2.2 f1) = faS f2 f4 bv (gL (t.2.2.drop (k + 1)) f1 f3)) := by unfold Hid; rw [HT.out, HN.out]
                clear HMISS HHIT g3 HT HN
                go_wp2
                go_roundw
                case rel => exact ⟨k + 1, bv, by omega, by go_num, rfl, HBV, HT2, (by repeat (first | exact HBEL.out | refine Below.alloc ?_ (by first | omega | (simp; done) | (simp; omega)) _ | refine Below.setCell ?_ (by first | omega | (simp; done) | (simp; omega)) _))⟩
                case measure => simp [intOf]; omega
            · have HE : Hid (faI f2 f4 f3 0 (hisL t.2.2 f1) = if bv < 0 then none else some bv) := by
                unfold Hid
                rw [HT.out, List.drop_of_length_le (by rw [hm.out]; omega)]
                rfl
              clear HT
              by_cases hb : bv < 0
              · rw [if_pos hb] at HE
                go_wp2
                go_ret2
                rw [HR.out, HE.out]
                exact ⟨rfl, HBW.out⟩
              · rw [if_neg hb] at HE
                go_wp2
                go_ret2
                rw [HR.out, HE.out]
                exact ⟨rfl, HBW.out⟩
        · rw [if_neg hlv] at hb0
          subst hb0
          go_wp2_with (first | (go_at_call 70; refine (l09Least_any _ _).mono ?_; rintro e w' ⟨rfl, rfl⟩) | (go_at_call 71; refine (l00In_any _ _ _ _).mono ?_; rintro e w' ⟨rfl, rfl⟩) | (go_at_call 72; refine LV.out.mono ?_; rintro e w' ⟨rfl, rfl⟩))
          clear p2 hlv LV
          go_loopw [13, 14] (fun s i wr => ∃ (k : Nat) (bv : Int), k ≤ m ∧ i = .int .i64 (k : Int) ∧ s = .int .i64 bv ∧ Hid (-1 ≤ bv ∧ bv ≤ 10000) ∧ Hid (faI f2 f4 f3 0 (hisL t.2.2 f1) = faS f2 f4 bv (gL (t.2.2.drop k) f1 f3)) ∧ Hid (Below w1.heap.size w1 wr)) (fun _ i _ => m - (intOf i).toNat)
          case atStart => exact ⟨0, -1, by omega, rfl, rfl, LOOP, by unfold Hid; rw [List.drop_zero]; exact HFM.out, Below.refl _ _⟩
          case round =>
            obtain ⟨k, bv, hk, rfl, rfl, HBV, HT, HBEL⟩ := hrel
            have HBW : Hid (Below w.heap.size w wr) := HB1.out.trans (HBEL.out.mono hw1)
            have hwr := HBEL.out.size
            have p2 := Z1.out _ HBEL.out
            obtain ⟨hv0, hv1⟩ := HBV.out
            by_cases hlt : k < m
            · have hka : k < t.2.2.length := by rw [hm.out]; exact hlt
              have hch := (chB_parts (HCH.out k hka)).1
              obtain ⟨bb, ob, rfl, hbl, hx⟩ := (HB.out _ HBW.out).at_ k hka
              have x0 := hx 0 _ rfl
              have x1 := hx 1 _ rfl
              have x2 := hx 2 _ rfl
              simp only [Nat.add_zero] at x0
              have HMISS : Hid ((t.2.2[k]).1 ≤ f3 ∨ ¬ (t.2.2[k]).2.1 = f1 → gL (t.2.2.drop k) f1 f3 = gL (t.2.2.drop (k + 1)) f1 f3) := fun h => gL_miss hka h
              have HHIT : Hid (f3 < (t.2.2[k]).1 → (t.2.2[k]).2.1 = f1 → gL (t.2.2.drop k) f1 f3 = t.2.2[k] :: gL (t.2.2.drop (k + 1)) f1 f3) := fun h1 h2 => gL_hit hka h1 h2
              generalize t.2.2[k] = u at x0 x1 x2 HMISS HHIT hch
              obtain ⟨u1, u2, u3⟩ := u
              dsimp only at x0 x1 x2 HMISS HHIT hch
              obtain ⟨hc0, hc1⟩ := hch
              have hk0 : (0 : Int) ≤ (k : Int) := by omega
              have hk1 : (k : Int) < (m : Int) := by omega
              clear hx
              rcases eq_ways u2 f1 with ⟨⟨g1, g2⟩, g3⟩ | ⟨⟨g1, g2⟩, g3⟩
              · by_cases hte : u1 ≤ f3
                · have HN := Lib.hid (HMISS.out (.inl hte))
                  have HT2 : Hid (faI f2 f4 f3 0 (hisL t.2.2 f1) = faS f2 f4 bv (gL (t.2.2.drop (k + 1)) f1 f3)) := by unfold Hid; rw [HT.out, HN.out]
                  clear HMISS HHIT g3 HT HN
                  go_wp2
                  go_roundw
                  case rel => exact ⟨k + 1, bv, by omega, by go_num, rfl, HBV, HT2, (by repeat (first | exact HBEL.out | refine Below.alloc ?_ (by first | omega | (simp; done) | (simp; omega)) _ | refine Below.setCell ?_ (by first | omega | (simp; done) | (simp; omega)) _))⟩
                  case measure => simp [intOf]; omega
                · have HN := Lib.hid (HHIT.out (by omega) g3)
                  have HST : Hid (faI f2 f4 f3 0 (hisL t.2.2 f1) = if 0 ≤ bv ∧ f4 ≤ u1 - bv then some bv else faS f2 f4 (if u3 < f2 then -1 else if bv < 0 then u1 else bv) (gL (t.2.2.drop (k + 1)) f1 f3)) := by
                    unfold Hid; rw [HT.out, HN.out]; rfl
                  clear HMISS HHIT g3 HT HN
                  by_cases hb : 0 ≤ bv
                  · by_cases hq : f4 ≤ u1 - bv
                    · have HE : Hid (faI f2 f4 f3 0 (hisL t.2.2 f1) = some bv) := by unfold Hid; rw [HST.out, if_pos ⟨hb, hq⟩]
                      clear HST
                      go_wp2
                      go_ret2
                      rw [HR.out, HE.out]
                      exact ⟨rfl, (by repeat (first | exact HBW.out | refine Below.alloc ?_ (by first | omega | (simp; done) | (simp; omega)) _ | refine Below.setCell ?_ (by first | omega | (simp; done) | (simp; omega)) _))⟩
                    · have hbn : ¬ bv < 0 := by omega
                      have HE : Hid (faI f2 f4 f3 0 (hisL t.2.2 f1) = faS f2 f4 (if u3 < f2 then -1 else bv) (gL (t.2.2.drop (k + 1)) f1 f3)) := by unfold Hid; rw [HST.out, if_neg (fun h => hq h.2), if_neg hbn]
                      clear HST
                      by_cases hu : u3 < f2
                      · rw [if_pos hu] at HE
                        go_wp2
                        go_roundw
                        case rel => exact ⟨k + 1, -1, by omega, by go_num, rfl, (⟨by omega, by omega⟩ : _ ∧ _), HE, (by repeat (first | exact HBEL.out | refine Below.alloc ?_ (by first | omega | (simp; done) | (simp; omega)) _ | refine Below.setCell ?_ (by first | omega | (simp; done) | (simp; omega)) _))⟩
                        case measure => simp [intOf]; omega
                      · rw [if_neg hu] at HE
                        go_wp2
                        go_roundw
                        case rel => exact ⟨k + 1, bv, by omega, by go_num, rfl, HBV, HE, (by repeat (first | exact HBEL.out | refine Below.alloc ?_ (by first | omega | (simp; done) | (simp; omega)) _ | refine Below.setCell ?_ (by first | omega | (simp; done) | (simp; omega)) _))⟩
                        case measure => simp [intOf]; omega
                  · have hbn : bv < 0 := by omega
                    have HE : Hid (faI f2 f4 f3 0 (hisL t.2.2 f1) = faS f2 f4 (if u3 < f2 then -1 else u1) (gL (t.2.2.drop (k + 1)) f1 f3)) := by unfold Hid; rw [HST.out, if_neg (fun h => hb h.1), if_pos hbn]
                    clear HST
                    by_cases hu : u3 < f2
                    · rw [if_pos hu] at HE
                      go_wp2
                      go_roundw
                      case rel => exact ⟨k + 1, -1, by omega, by go_num, rfl, (⟨by omega, by omega⟩ : _ ∧ _), HE, (by repeat (first | exact HBEL.out | refine Below.alloc ?_ (by first | omega | (simp; done) | (simp; omega)) _ | refine Below.setCell ?_ (by first | omega | (simp; done) | (simp; omega)) _))⟩
                      case measure => simp [intOf]; omega
                    · rw [if_neg hu] at HE
                      go_wp2
                      go_roundw
                      case rel => exact ⟨k + 1, u1, by omega, by go_num, rfl, (⟨by omega, by omega⟩ : _ ∧ _), HE, (by repeat (first | exact HBEL.out | refine Below.alloc ?_ (by first | omega | (simp; done) | (simp; omega)) _ | refine Below.setCell ?_ (by first | omega | (simp; done) | (simp; omega)) _))⟩
                      case measure => simp [intOf]; omega
              · have HN := Lib.hid (HMISS.out (.inr g3))
                have HT2 : Hid (faI f2 f4 f3 0 (hisL t.2.2 f1) = faS f2 f4 bv (gL (t.2.2.drop (k + 1)) f1 f3)) := by unfold Hid; rw [HT.out, HN.out]
                clear HMISS HHIT g3 HT HN
                go_wp2
                go_roundw
                case rel => exact ⟨k + 1, bv, by omega, by go_num, rfl, HBV, HT2, (by repeat (first | exact HBEL.out | refine Below.alloc ?_ (by first | omega | (simp; done) | (simp; omega)) _ | refine Below.setCell ?_ (by first | omega | (simp; done) | (simp; omega)) _))⟩
                case measure => simp [intOf]; omega
            · have HE : Hid (faI f2 f4 f3 0 (hisL t.2.2 f1) = if bv < 0 then none else some bv) := by
                unfold Hid
                rw [HT.out, List.drop_of_length_le (by rw [hm.out]; omega)]
                rfl
              clear HT
              by_cases hb : bv < 0
              · rw [if_pos hb] at HE
                go_wp2
                go_ret2
                rw [HR.out, HE.out]
                exact ⟨rfl, HBW.out⟩
              · rw [if_neg hb] at HE
                go_wp2
                go_ret2
                rw [HR.out, HE.out]
                exact ⟨rfl, HBW.out⟩
  · rw [if_neg e3] at LE
    have HR : Hid (firstR t f1 f2 f3 f4 = (0, rangeCode (zoneC t f1) f3 10000)) := by
      have : firstC t f1 f2 f3 f4 = rangeCode (zoneC t f1) f3 10000 := by unfold firstC; rw [LE, if_neg e3]
      unfold Hid firstR; rw [this, if_neg e3]
    clear e3 LE
    go_wp2
    go_ret2
    rw [HR.out]
    exact ⟨rfl, HB1.out⟩
end Go.Proofs.Ytfejgckimlgopaa
