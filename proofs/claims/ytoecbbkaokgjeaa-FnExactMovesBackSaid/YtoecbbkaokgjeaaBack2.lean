/-
  MovesBack: the program's walk.
-/
import Derived.Test.YtoecbbkaokgjeaaBack
namespace Go.Proofs.Ytoecbbkaokgjeaa
open Go.RowKit

theorem balL_at {l ws : List Int} {n i : Nat} (hl : l.length = n) (hw : ws.length = n) (hi : i < n) : (balL l ws n)[i]'(by rw [balL_len]; exact hi) = l[i]'(by omega) - ws[i]'(by omega) := by
  rw [balL_get, getD_at (by omega), getD_at (by omega)]
theorem balL_mov {o ws : List Int} {n f t : Nat} {x : Int} (ho : o.length = n) (hw : ws.length = n) (hf : f < n) (ht : t < n) : movL (balL o ws n) f t x = balL (movL o f t x) ws n := by
  apply List.ext_getElem (by rw [movL_len, balL_len, balL_len])
  intro i h1 h2
  have hi : i < n := by rw [balL_len] at h2; exact h2
  rw [movL_get (by rw [balL_len]; exact hf) (by rw [balL_len]; exact ht), balL_at ((movL_len _ _ _ _).trans ho) hw hi, movL_get (by omega) (by omega), balL_at ho hw hf, balL_at ho hw ht, balL_at ho hw hi]
  by_cases e1 : t = i
  · subst e1
    rw [if_pos rfl, if_pos rfl]; omega
  · rw [if_neg e1, if_neg e1]
    by_cases e2 : f = i
    · subst e2
      rw [if_pos rfl, if_pos rfl]; omega
    · rw [if_neg e2, if_neg e2]
theorem bal_sum {l ws : List Int} {n : Nat} (hl : l.length = n) (hw : ws.length = n) (k : Nat) (hk : k ≤ n) : (balL l ws k).sum = sumAt l k - sumAt ws k := by
  induction k with
  | zero => simp [balL, sumAt_zero]
  | succ k ih =>
    have h1 : balL l ws (k + 1) = balL l ws k ++ [l.getD k 0 - ws.getD k 0] := by simp [balL, List.range_succ]
    rw [h1, List.sum_append, ih (by omega), sumAt_succ l k (by omega), sumAt_succ ws k (by omega), getD_at (by omega), getD_at (by omega)]
    simp
    omega

theorem backStep_len (ws : List Int) (t f : Nat) (s : BState) : (backStep ws t f s).2.length ≤ s.2.length + 1 := by
  unfold backStep
  split
  · simp
  · omega
theorem backIn_len (ws : List Int) (t : Nat) (s : BState) (k : Nat) : (backIn ws t s k).2.length ≤ s.2.length + k := by
  induction k with
  | zero => simp [backIn]
  | succ k ih =>
    rw [backIn]
    have := backStep_len ws t k (backIn ws t s k)
    omega
theorem backAll_len (ws : List Int) (n : Nat) (l : List Int) (hn : n ≤ 10) (t : Nat) : (backAll ws n l t).2.length ≤ 10 * t := by
  induction t with
  | zero => simp [backAll]
  | succ t ih =>
    rw [backAll]
    have := backIn_len ws t (backAll ws n l t) n
    omega
theorem backOf_len (l ws : List Int) : (backOf l ws).1.length ≤ 1048576 := by
  unfold backOf
  split
  · rename_i h
    have hst := (wcode_ok rfl rfl h).1
    have h10 := (stB_len hst).2
    split
    · simp
    · dsimp only
      have := backAll_len ws l.length l h10 l.length
      omega
  · simp

set_option maxRecDepth 20000 in
set_option maxHeartbeats 8000000 in
theorem implMovesBack_any (w : World) {a0 : Option Addr} {n0 c0 : Nat} (l0 : List Int) (hn0 : Hid (l0.length = n0)) (h0 : RI w a0 l0) (hs0 : n0 ≤ 1048576) (_wf0 : Hid (∀ k ∈ l0, (Lit.int .i64 k).wf = true)) {a1 : Option Addr} {n1 c1 : Nat} (l1 : List Int) (hn1 : Hid (l1.length = n1)) (h1 : RI w a1 l1) (hs1 : n1 ≤ 1048576) (_wf1 : Hid (∀ k ∈ l1, (Lit.int .i64 k).wf = true)) :
    Calls Try.prog 30 #[.slice a0 n0 c0, .slice a1 n1 c1] w (GivesRs 36 3 cMove (backOf l0 l1) w) := by
  have HI : Hid (∃ i0 : TypeInfo, Try.prog.info? 36 = some i0 ∧ i0.zero = some (.agg #[.int .i64 0, .int .i64 0, .int .i64 0]) ∧ i0.size = 3 ∧ i0.bytes = 24) := info_parts info36w
  have CO := checkWants_any a0 a1 l0 l1 n0 c0 n1 c1 w hn0 h0 hs0 hn1 h1 hs1
  obtain ⟨c, hc⟩ : ∃ c, wcode l0 l1 = c := ⟨_, rfl⟩
  rw [hc] at CO
  rcases eq_ways c 0 with ⟨⟨e1, e2⟩, e3⟩ | ⟨⟨e1, e2⟩, e3⟩
  · subst e3
    obtain ⟨hst, hwt, hmn⟩ := wcode_ok hn0.out hn1.out hc
    have hn10 : n0 ≤ 10 := by have := (stB_len hst).2; rw [hn0.out] at this; exact this
    have HFULL : Hid (l0.sum < l1.sum → backOf l0 l1 = ([], 5)) := fun h => backOf_full hc h
    have HGOOD : Hid (¬ l0.sum < l1.sum → backOf l0 l1 = ((backAll l1 n0 l0 n0).2, 0)) := fun h => backOf_good hn0.out hc h
    subst hmn
    have HOK : Hid (okO n1 l0) := ⟨hn0.out, fun i hi => stB_at hst i hi⟩
    have HWS : Hid (l1.length = n1 ∧ ∀ i (h : i < l1.length), 0 ≤ l1[i] ∧ l1[i] ≤ 200) := ⟨hn1.out, fun i hi => wtB_at hwt i hi⟩
    have BO := balanceOf_any a0 a1 l0 l1 n1 c0 c1 w hn0 h0 hn1 h1 hn10 (fun i hi => stB_at hst i hi) (fun i hi => wtB_at hwt i hi)
    have HBD := Lib.hid (balL_bd hn0.out hn1.out (fun i hi => stB_at hst i hi) (fun i hi => wtB_at hwt i hi))
    have HSM : Hid ((balL l0 l1 n1).sum = l0.sum - l1.sum) := by unfold Hid; rw [bal_sum hn0.out hn1.out n1 (Nat.le_refl _), sumAt_all hn0.out, sumAt_all hn1.out]
    have SO : Hid (∀ W g, W.ownsRow w.heap.size 2 1 (.slice (some ⟨g, 0, none⟩) n1 n1) n1 ((balL l0 l1 n1).map (Value.int .i64)) → Calls Try.prog 40 #[.slice (some ⟨g, 0, none⟩) n1 n1] W fun e w' => e = .returned (.int .i64 (l0.sum - l1.sum)) ∧ W = w') := fun W g ho => by
      rw [← HSM.out]
      exact sumOf_any _ (balL l0 l1 n1) n1 n1 W (balL_len _ _ _) (rowI_RI (balL_len _ _ _) ho) ⟨by rw [balL_len]; exact hn10, HBD.out⟩
    clear e1 e2 hst hwt hc h0 h1
    by_cases hfull : l0.sum < l1.sum
    · have HR := Lib.hid (HFULL.out hfull)
      clear HFULL HGOOD HSM
      generalize l0.sum = s0 at SO hfull
      generalize l1.sum = s1 at SO hfull
      have hneg : s0 - s1 < 0 := by omega
      generalize s0 - s1 = sd at SO hneg
      clear hfull
      go_enter Try.func30, Try.ntmps30
      go_wp2_with (first | (go_at_call 53; refine CO.mono ?_; rintro e w' ⟨rfl, rfl⟩) | (go_at_call 54; refine BO.mono ?_; rintro e w1 ⟨g, rfl, hg, hb1, ho1⟩) | (go_at_call 40; refine (SO.out _ _ ho1).mono ?_; rintro e w' ⟨rfl, rfl⟩))
      go_ret2
      exact givesRs_nil HR.out hb1
    · have HR := Lib.hid (HGOOD.out hfull)
      clear HFULL HGOOD HSM
      generalize l0.sum = s0 at SO hfull
      generalize l1.sum = s1 at SO hfull
      have hneg : ¬ s0 - s1 < 0 := by omega
      generalize s0 - s1 = sd at SO hneg
      clear hfull
      go_enter Try.func30, Try.ntmps30
      go_wp2_with (first | (go_at_call 53; refine CO.mono ?_; rintro e w' ⟨rfl, rfl⟩) | (go_at_call 54; refine BO.mono ?_; rintro e w1 ⟨g, rfl, hg, hb1, ho1⟩) | (go_at_call 40; refine (SO.out _ _ ho1).mono ?_; rintro e w' ⟨rfl, rfl⟩))
      have HG1 : Hid (w.heap.size ≤ g ∧ g < w1.heap.size) := ⟨own_ge ho1, (ho1.lt g rfl).2⟩
      have HB1 := Lib.hid hb1
      have HO1 : Hid (OwnL w.heap.size g n1 n1 (balL l0 l1 n1) w1) := ho1
      have hw1 := hb1.size
      clear hb1 ho1 CO BO SO
      go_loopw [8, 27] (fun vo tv wr => ∃ (t j cm : Nat) (ao : Option Addr) (o : List Int) (mv : List TMove), t ≤ n1 ∧ vo = .slice ao j cm ∧ tv = .int .i64 (t : Int) ∧ Hid (Below w.heap.size w wr) ∧ Hid (OwnL w.heap.size g n1 n1 (balL o l1 n1) wr) ∧ Hid (OwnM w.heap.size (.slice ao j cm) j mv wr) ∧ Hid (∀ q, (Value.slice ao j cm).ownBlock = some q → q ≠ g) ∧ Hid (okO n1 o) ∧ Hid (backAll l1 n1 l0 t = (o, mv)) ∧ Hid (mv.length = j) ∧ j ≤ 10 * t ∧ g < wr.heap.size) (fun _ tv _ => n1 - (intOf tv).toNat)
      case atStart => exact ⟨0, 0, 0, none, l0, [], by omega, rfl, rfl, HB1, HO1, by unfold Hid OwnM; simpa using World.ownsRow_nil w1 w.heap.size 36 3, fun q hq => by simp [Value.ownBlock] at hq, HOK, rfl, rfl, by omega, HG1.out.2⟩
      case round =>
        obtain ⟨t, j, cm, ao, o, mv, ht, rfl, rfl, HBT, HOL, HOM, HNE, HOO, HST, HLJ, hj, hgw⟩ := hrel
        by_cases hlt : t < n1
        · obtain ⟨wo, hwo⟩ : ∃ wo, wo = wr := ⟨wr, rfl⟩
          subst hwo
          have ht0 : (0 : Int) ≤ (t : Int) := by omega
          have ht1 : (t : Int) < (n1 : Int) := by omega
          go_wp2
          go_loopw [8, 32] (fun vo fv wr => ∃ (f j cm : Nat) (ao : Option Addr) (p : List Int) (mw : List TMove), f ≤ n1 ∧ vo = .slice ao j cm ∧ fv = .int .i64 (f : Int) ∧ Hid (Below w.heap.size w wr) ∧ Hid (OwnL w.heap.size g n1 n1 (balL p l1 n1) wr) ∧ Hid (OwnM w.heap.size (.slice ao j cm) j mw wr) ∧ Hid (∀ q, (Value.slice ao j cm).ownBlock = some q → q ≠ g) ∧ Hid (okO n1 p) ∧ Hid (backIn l1 t (o, mv) f = (p, mw)) ∧ Hid (mw.length = j) ∧ j ≤ 10 * t + f ∧ g < wr.heap.size) (fun _ fv _ => n1 - (intOf fv).toNat)
          case atStart => exact ⟨0, j, cm, ao, o, mv, by omega, rfl, rfl, HBT, HOL, HOM, HNE, HOO, rfl, HLJ, by omega, hgw⟩
          case round =>
            obtain ⟨f, j2, cm2, ao2, p, mw, hf, rfl, rfl, HBF, HPL, HPM, HNF, HPO, HIN, HLJ2, hj2, hgw2⟩ := hrel
            by_cases hlf : f < n1
            · have hfp : f < p.length := by rw [HPO.out.1]; exact hlf
              have htp : t < p.length := by rw [HPO.out.1]; exact hlt
              have hfw : f < l1.length := by rw [HWS.out.1]; exact hlf
              have htw : t < l1.length := by rw [HWS.out.1]; exact hlt
              have hN := backN_at (ws := l1) (o := p) hfp hfw htp htw
              have hFACT : 0 < backN l1 t f p → f ≠ t ∧ 1 ≤ backN l1 t f p ∧ backN l1 t f p ≤ 200 ∧ backN l1 t f p ≤ p.getD f 0 ∧ okO n1 (movL p f t (backN l1 t f p)) := back_facts HPO.out HWS.out hlf hlt
              have hb1 := HPO.out.2 f hfp
              have hb2 := HPO.out.2 t htp
              have hb3 := HWS.out.2 f hfw
              have hb4 := HWS.out.2 t htw
              have x1 := HPL.out.cell f (by rw [balL_len]; exact hlf)
              have x2 := HPL.out.cell t (by rw [balL_len]; exact hlt)
              rw [balL_at HPO.out.1 HWS.out.1 hlf] at x1
              rw [balL_at HPO.out.1 HWS.out.1 hlt] at x2
              have hbt : tameL (balL p l1 n1) := fun i hi => by have := balL_bd HPO.out.1 HWS.out.1 HPO.out.2 HWS.out.2 i hi; omega
              have HMV : Hid (∀ x, movL (balL p l1 n1) f t x = balL (movL p f t x) l1 n1) := fun x => balL_mov HPO.out.1 HWS.out.1 hlf hlt
              generalize hpf : p[f] - l1[f] = df at x1 hN
              generalize hpt : p[t] - l1[t] = dt at x2
              have hdf : -200 ≤ df ∧ df ≤ 200 := by omega
              have hdt : -200 ≤ dt ∧ dt ≤ 200 := by omega
              rw [show l1[t] - p[t] = -dt by omega] at hN
              clear hpf hpt hb1 hb2 hb3 hb4
              obtain ⟨x, hx⟩ : ∃ x, backN l1 t f p = x := ⟨_, rfl⟩
              rw [hx] at hN hFACT
              have HYES : Hid (0 < x → backIn l1 t (o, mv) (f + 1) = (movL p f t x, mw ++ [((f : Int), (t : Int), x)])) := fun h => by rw [backIn, HIN.out, backStep_yes hx h]
              have HNO : Hid (¬ 0 < x → backIn l1 t (o, mv) (f + 1) = (p, mw)) := fun h => by rw [backIn, HIN.out, backStep_no hx h]
              have HFACT := Lib.hid hFACT
              have hxb : x ≤ 200 := by omega
              have hf0 : (0 : Int) ≤ (f : Int) := by omega
              have hf1 : (f : Int) < (n1 : Int) := by omega
              have hneg : IntKind.i64.wrap (-dt) = -dt := IntWalk.i64_in _ (by omega)
              have HN2 := Lib.hid hN
              clear hx hFACT hN
              go_wp2_with fail
              go_quiet (fail)
              rw [← HN2.out]
              have HB2 : Hid (Below w.heap.size w (wr.drewN nq)) := Below.drewN' HBF.out _
              have HPL2 : Hid (OwnL w.heap.size g n1 n1 (balL p l1 n1) (wr.drewN nq)) := HPL.out
              have HPM2 : Hid (OwnM w.heap.size (.slice ao2 j2 cm2) j2 mw (wr.drewN nq)) := HPM.out
              have hgw3 : g < (wr.drewN nq).heap.size := hgw2
              clear x1 x2 HBF HPL HPM hneg HN2
              generalize wr.drewN nq = w2 at HB2 HPL2 HPM2 hgw3
              by_cases hpos : 0 < x
              · have HN := Lib.hid (HYES.out hpos)
                obtain ⟨hne, hx1, hx2, hx3, hok⟩ := HFACT.out hpos
                have HOK3 := Lib.hid hok
                have hbox : Below w2.heap.size w2 (w2.alloc (.cells #[.int .i64 f, .int .i64 t, .int .i64 x] 36)) := (by repeat (first | exact Below.refl _ _ | refine Below.alloc ?_ (by simp; try omega) _ | refine Below.setCell ?_ (by simp; try omega) _))
                have HBX := Lib.hid hbox
                have AP := apply_any w.heap.size g n1 n1 (balL p l1 n1) f t x (w2.alloc (.cells #[.int .i64 f, .int .i64 t, .int .i64 x] 36)) (balL_len _ _ _) hlf hlt hne ⟨hx1, hx2⟩ hbt (OwnL.alloc HPL2.out _) (by simp; omega)
                clear HYES HNO hok hbox hx3 HFACT hbt
                have hws2 := HB2.out.size
                go_wp2_with (first | (go_at_call 50; refine AP.mono ?_; rintro e w3 ⟨rfl, hg3, ho3⟩; have z0 : w3.cell? ⟨w2.heap.size, 0, none⟩ = some (.int .i64 f) := hg3.cell (a := ⟨w2.heap.size, 0, none⟩) (by simp [go_sem]) (by simp; omega); have z1 : w3.cell? ⟨w2.heap.size, 1, none⟩ = some (.int .i64 t) := hg3.cell (a := ⟨w2.heap.size, 1, none⟩) (by simp [go_sem]) (by simp; omega); have z2 : w3.cell? ⟨w2.heap.size, 2, none⟩ = some (.int .i64 x) := hg3.cell (a := ⟨w2.heap.size, 2, none⟩) (by simp [go_sem]) (by simp; omega); rw [HMV.out] at ho3; have HB3 : Hid (Below w.heap.size w w3) := (two_worlds HB2.out HBX.out).grown hg3 (two_worlds HB2.out HBX.out).size (fun q hq => by injection hq with hq; subst hq; exact HG1.out.1); have HPM3 : Hid (OwnM w.heap.size (.slice ao2 j2 cm2) j2 mw w3) := own_grown (World.ownsRow.alloc HPM2.out _) hg3 HNF.out; have hg3s := hg3.size; simp at hg3s; have HO3 := Lib.hid ho3; have HGE : Hid (∀ q, (Value.slice ao2 j2 cm2).ownBlock = some q → w.heap.size ≤ q) := fun q hq => (HPM3.out.lt q hq).1; have hw3 := HB3.out.size; clear hg3 ho3) | (at_builtin; refine wpList_append_lies _ rfl _ _ 29 rfl w.heap.size 36 HI.out.choose (.agg #[.int .i64 0, .int .i64 0, .int .i64 0]) 3 24 Try.underlying29 HI.out.choose_spec.1 HI.out.choose_spec.2.1 HI.out.choose_spec.2.2.1 HI.out.choose_spec.2.2.2 rfl (by decide) (.slice ao2 j2 cm2) j2 (mw.flatMap cMove) rfl (World.ownsRow.alloc HPM3.out _) ⟨w3.heap.size, 0, none⟩ 1 1 [.int .i64 f, .int .i64 t, .int .i64 x] rfl rfl (World.news_of_block (heap_alloc_new w3 _)) (by intro u hu; simp at hu; rcases hu with rfl | rfl | rfl <;> rfl) (by omega) (by unfold maxLen; omega) (by omega) (by simp; omega) (w3.heap.size + 1) (by simp) ?_))
                intro g2 cap' w4 hown1 hgrow hat hlt2
                have B4 : Hid (Below w.heap.size w w4) := (HB3.out.alloc hw3 _).grown hgrow (by simp; omega) HGE.out
                have O4 : Hid (OwnM w.heap.size (.slice (some ⟨g2, 0, none⟩) (j2 + 1) cap') (j2 + 1) (mw ++ [((f : Int), (t : Int), x)]) w4) := by
                  unfold Hid OwnM; rw [List.flatMap_append]; exact hown1
                have P4 : Hid (OwnL w.heap.size g n1 n1 (balL (movL p f t x) l1 n1) w4) := own_grown' (OwnL.alloc HO3.out _) hgrow HNF.out
                have N4 : Hid (∀ q, (Value.slice (some ⟨g2, 0, none⟩) (j2 + 1) cap').ownBlock = some q → q ≠ g) := fun q hq => by
                  simp [Value.ownBlock] at hq
                  subst hq
                  rcases hat with hat | hat
                  · exact HNF.out _ hat
                  · first | omega | (simp at hat; omega)
                have hg4 : g < w4.heap.size := by have := hgrow.size; simp at this; omega
                clear hown1 hgrow hat hlt2 z0 z1 z2
                go_wp2
                go_roundw
                case rel => exact ⟨f + 1, j2 + 1, cap', _, movL p f t x, mw ++ [((f : Int), (t : Int), x)], by omega, rfl, by go_num, B4, P4, O4, N4, HOK3, HN, by unfold Hid; rw [List.length_append, HLJ2.out]; rfl, by omega, hg4⟩
                case measure => simp [intOf]; omega
              · have HN := Lib.hid (HNO.out (by omega))
                clear HYES HNO HFACT
                go_wp2
                go_roundw
                case rel => exact ⟨f + 1, j2, cm2, ao2, p, mw, by omega, rfl, by go_num, HB2, HPL2, HPM2, HNF, HPO, HN, HLJ2, by omega, hgw3⟩
                case measure => simp [intOf]; omega
            · have hfn : f = n1 := by omega
              have HN : Hid (backAll l1 n1 l0 (t + 1) = (p, mw)) := by unfold Hid; rw [backAll, HST.out, ← hfn]; exact HIN.out
              go_wp2
              go_roundw
              case rel => exact ⟨t + 1, j2, cm2, ao2, p, mw, by omega, rfl, by go_num, HBF, HPL, HPM, HNF, HPO, HN, HLJ2, by omega, hgw2⟩
              case measure => simp [intOf]; omega
        · have htn : t = n1 := by omega
          subst htn
          rw [HST.out] at HR
          go_wp2
          go_ret2
          exact givesRs_of HR.out HBT.out HLJ.out HOM.out
  · have HR := Lib.hid (backOf_bad hc e3)
    clear e3 hc h0 h1
    go_enter Try.func30, Try.ntmps30
    go_wp2_with (go_at_call 53; refine CO.mono ?_; rintro e w' ⟨rfl, rfl⟩)
    go_ret2
    exact givesRs_nil HR.out (Below.refl _ _)
end Go.Proofs.Ytoecbbkaokgjeaa
