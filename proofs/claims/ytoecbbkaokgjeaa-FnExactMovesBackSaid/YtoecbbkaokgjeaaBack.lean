/-
  MovesBack: what it answers, and the model's walk.
-/
import Derived.Test.YtoecbbkaokgjeaaShort2
namespace Go.Proofs.Ytoecbbkaokgjeaa
open Go.RowKit

abbrev BState := List Int × List TMove
/-- How many go from one station to another one. -/
def backN (ws : List Int) (t f : Nat) (o : List Int) : Int := min (o.getD f 0 - ws.getD f 0) (ws.getD t 0 - o.getD t 0)
def backStep (ws : List Int) (t f : Nat) (s : BState) : BState :=
  if 0 < backN ws t f s.1 then (movL s.1 f t (backN ws t f s.1), s.2 ++ [((f : Int), (t : Int), backN ws t f s.1)]) else s
def backIn (ws : List Int) (t : Nat) (s : BState) : Nat → BState
  | 0 => s
  | k + 1 => backStep ws t k (backIn ws t s k)
def backAll (ws : List Int) (n : Nat) (l : List Int) : Nat → BState
  | 0 => (l, [])
  | t + 1 => backIn ws t (backAll ws n l t) n
def backOf (l ws : List Int) : List TMove × Int :=
  if wcode l ws = 0 then if l.sum < ws.sum then ([], 5) else ((backAll ws l.length l l.length).2, 0) else ([], wcode l ws)
theorem backOf_bad {l ws : List Int} {c : Int} (hc : wcode l ws = c) (h : ¬ c = 0) : backOf l ws = ([], c) := by subst hc; unfold backOf; rw [if_neg h]
theorem backOf_full {l ws : List Int} (hc : wcode l ws = 0) (h : l.sum < ws.sum) : backOf l ws = ([], 5) := by unfold backOf; rw [if_pos hc, if_pos h]
theorem backOf_good {l ws : List Int} {n : Nat} (hn : l.length = n) (hc : wcode l ws = 0) (h : ¬ l.sum < ws.sum) : backOf l ws = ((backAll ws n l n).2, 0) := by unfold backOf; rw [if_pos hc, if_neg h, hn]

/-- The numbers at stations on the way: from 0 to 200. -/
def okO (n : Nat) (o : List Int) : Prop := o.length = n ∧ ∀ i (h : i < o.length), 0 ≤ o[i] ∧ o[i] ≤ 200
theorem okO_tame {n : Nat} {o : List Int} (h : okO n o) : tameL o := fun i hi => by have := h.2 i hi; omega
theorem backN_at {ws o : List Int} {t f : Nat} (hf : f < o.length) (hf2 : f < ws.length) (ht : t < o.length) (ht2 : t < ws.length) : backN ws t f o = min (o[f] - ws[f]) (ws[t] - o[t]) := by
  unfold backN
  rw [getD_at hf, getD_at hf2, getD_at ht, getD_at ht2]
/-- A move that is made is from one station to another one, and possible. -/
theorem back_facts {n t f : Nat} {ws o : List Int} (ho : okO n o) (hw : ws.length = n ∧ ∀ i (h : i < ws.length), 0 ≤ ws[i] ∧ ws[i] ≤ 200) (hf : f < n) (ht : t < n) (h : 0 < backN ws t f o) :
    f ≠ t ∧ 1 ≤ backN ws t f o ∧ backN ws t f o ≤ 200 ∧ backN ws t f o ≤ o.getD f 0 ∧ okO n (movL o f t (backN ws t f o)) := by
  have hfo : f < o.length := by rw [ho.1]; exact hf
  have hto : t < o.length := by rw [ho.1]; exact ht
  have hfw : f < ws.length := by rw [hw.1]; exact hf
  have htw : t < ws.length := by rw [hw.1]; exact ht
  have e := backN_at (ws := ws) (o := o) hfo hfw hto htw
  have h1 := ho.2 f hfo
  have h2 := ho.2 t hto
  have h3 := hw.2 f hfw
  have h4 := hw.2 t htw
  have hne : f ≠ t := by
    rintro rfl
    rw [e] at h
    omega
  refine ⟨hne, by omega, by omega, by rw [getD_at hfo]; omega, by rw [movL_len]; exact ho.1, ?_⟩
  intro i hi
  rw [movL_get hfo hto]
  have h5 := ho.2 i (by rw [movL_len] at hi; exact hi)
  split
  · omega
  · split
    · omega
    · exact h5
theorem backStep_yes {ws : List Int} {t f : Nat} {o : List Int} {mv : List TMove} {x : Int} (hx : backN ws t f o = x) (h : 0 < x) : backStep ws t f (o, mv) = (movL o f t x, mv ++ [((f : Int), (t : Int), x)]) := by subst hx; unfold backStep; rw [if_pos h]
theorem backStep_no {ws : List Int} {t f : Nat} {o : List Int} {mv : List TMove} {x : Int} (hx : backN ws t f o = x) (h : ¬ 0 < x) : backStep ws t f (o, mv) = (o, mv) := by subst hx; unfold backStep; rw [if_neg h]

theorem l00Min_any (x y : Int) (w : World) : Calls Try.prog 57 #[.int .i64 x, .int .i64 y] w fun e w' => e = .returned (.int .i64 (min x y)) ∧ w = w' := by
  by_cases h : x < y
  · have HR : Hid (min x y = x) := by unfold Hid; omega
    go_enter Try.func57, Try.ntmps57
    go_wp2
    go_ret
    exact ⟨ret_int HR.out.symm, rfl⟩
  · have HR : Hid (min x y = y) := by unfold Hid; omega
    go_enter Try.func57, Try.ntmps57
    go_wp2
    go_ret
    exact ⟨ret_int HR.out.symm, rfl⟩
theorem info36w : (Try.prog.info? 36).map (fun i => (i.zero, i.size, i.bytes)) = some (some (.agg #[.int .i64 0, .int .i64 0, .int .i64 0]), 3, 24) := by kernel_rfl
abbrev OwnM (lo : Nat) (v : Value) (j : Nat) (mv : List TMove) (w : World) : Prop := w.ownsRow lo 36 3 v j (mv.flatMap cMove)
theorem own_grown {w w' : World} {lo : Nat} {e : TypeId} {size n g : Nat} {v : Value} {xs : List Value} (h : w.ownsRow lo e size v n xs) (hg : w.grownBy w' (some g)) (hne : ∀ q, v.ownBlock = some q → q ≠ g) : w'.ownsRow lo e size v n xs :=
  h.kept hg (by
    cases hv : v.ownBlock with
    | none => simp
    | some q => have := hne q hv; simp; omega)
theorem own_grown' {w w' : World} {lo : Nat} {e : TypeId} {size n g cap : Nat} {xs : List Value} {u : Value} (h : w.ownsRow lo e size (.slice (some ⟨g, 0, none⟩) n cap) n xs) (hg : w.grownBy w' u.ownBlock) (hne : ∀ q, u.ownBlock = some q → q ≠ g) : w'.ownsRow lo e size (.slice (some ⟨g, 0, none⟩) n cap) n xs :=
  h.kept hg (by
    cases hv : u.ownBlock with
    | none => exact .inr (by simp [Value.ownBlock])
    | some q => have := hne q hv; exact .inr (by simp [Value.ownBlock]; omega))

set_option maxRecDepth 20000 in
set_option maxHeartbeats 8000000 in
theorem specMovesBack_any (w : World) {a0 : Option Addr} {n0 c0 : Nat} (l0 : List Int) (hn0 : Hid (l0.length = n0)) (h0 : RI w a0 l0) (hs0 : n0 ≤ 1048576) (_wf0 : Hid (∀ k ∈ l0, (Lit.int .i64 k).wf = true)) {a1 : Option Addr} {n1 c1 : Nat} (l1 : List Int) (hn1 : Hid (l1.length = n1)) (h1 : RI w a1 l1) (hs1 : n1 ≤ 1048576) (_wf1 : Hid (∀ k ∈ l1, (Lit.int .i64 k).wf = true)) :
    Calls Try.prog 29 #[.slice a0 n0 c0, .slice a1 n1 c1] w (GivesRs 36 3 cMove (backOf l0 l1) w) := by
  have HA : Hid (∀ w', Below w.heap.size w w' → RI w' a0 l0) := fun w' h => h0.below h
  have HB : Hid (∀ w', Below w.heap.size w w' → RI w' a1 l1) := fun w' h => h1.below h
  have HI : Hid (∃ i0 : TypeInfo, Try.prog.info? 36 = some i0 ∧ i0.zero = some (.agg #[.int .i64 0, .int .i64 0, .int .i64 0]) ∧ i0.size = 3 ∧ i0.bytes = 24) := info_parts info36w
  have CO := l07Code_any a0 a1 l0 l1 n0 c0 n1 c1 w hn0 h0 hs0 hn1 h1 hs1
  obtain ⟨c, hc⟩ : ∃ c, wcode l0 l1 = c := ⟨_, rfl⟩
  rw [hc] at CO
  rcases eq_ways c 0 with ⟨⟨e1, e2⟩, e3⟩ | ⟨⟨e1, e2⟩, e3⟩
  · subst e3
    obtain ⟨hst, hwt, hmn⟩ := wcode_ok hn0.out hn1.out hc
    have hn10 : n0 ≤ 10 := by have := (stB_len hst).2; rw [hn0.out] at this; exact this
    have HFULL : Hid (l0.sum < l1.sum → backOf l0 l1 = ([], 5)) := fun h => backOf_full hc h
    have HGOOD : Hid (¬ l0.sum < l1.sum → backOf l0 l1 = ((backAll l1 n0 l0 n0).2, 0)) := fun h => backOf_good hn0.out hc h
    subst hmn
    have HOK : Hid (okO n1 l0) := ⟨hn0.out, fun i hi => stB_at hst i hi⟩
    have HWS : Hid (l1.length = n1 ∧ ∀ i (h : i < l1.length), 0 ≤ l1[i] ∧ l1[i] ≤ 200) := ⟨hn1.out, fun i hi => wtB_at hwt i hi⟩
    have S0 := l00Sum_any a0 l0 n1 c0 w hn0 h0 (stB_small hst)
    have S1 := l00Sum_any a1 l1 n1 c1 w hn1 h1 ⟨by rw [hn1.out]; exact hn10, fun i hi => by have := wtB_at hwt i hi; omega⟩
    have OWN : Hid (∀ W, Below w.heap.size w W → Calls Try.prog 44 #[.slice a0 n1 c0] W (GivesO 2 l0 n1 W)) := fun W h => own_any a0 c0 n1 l0 W hn0 (by have := (stB_len hst).1; rw [hn0.out] at this; omega) hs0 (HA.out W h)
    clear e1 e2 hst hwt hc h0 h1
    by_cases hfull : l0.sum < l1.sum
    · have HR := Lib.hid (HFULL.out hfull)
      clear HFULL HGOOD
      generalize l0.sum = s0 at S0 hfull
      generalize l1.sum = s1 at S1 hfull
      go_enter Try.func29, Try.ntmps29
      go_wp2_with (first | (go_at_call 51; refine CO.mono ?_; rintro e w' ⟨rfl, rfl⟩) | (go_at_call 56; with_reducible refine Calls.mono S0 ?_; rintro e w' ⟨rfl, rfl⟩) | (go_at_call 56; with_reducible refine Calls.mono S1 ?_; rintro e w' ⟨rfl, rfl⟩))
      go_ret2
      exact givesRs_nil HR.out (Below.refl _ _)
    · have HR := Lib.hid (HGOOD.out hfull)
      clear HFULL HGOOD
      generalize l0.sum = s0 at S0 hfull
      generalize l1.sum = s1 at S1 hfull
      go_enter Try.func29, Try.ntmps29
      go_wp2_with (first | (go_at_call 51; refine CO.mono ?_; rintro e w' ⟨rfl, rfl⟩) | (go_at_call 56; with_reducible refine Calls.mono S0 ?_; rintro e w' ⟨rfl, rfl⟩) | (go_at_call 56; with_reducible refine Calls.mono S1 ?_; rintro e w' ⟨rfl, rfl⟩))
      refine (OWN.out _ (Below.refl _ _)).mono ?_
      rintro e w1 ⟨g, cap, rfl, hb1, ho1⟩
      have HG1 : Hid (w.heap.size ≤ g ∧ g < w1.heap.size) := ⟨own_ge ho1, (ho1.lt g rfl).2⟩
      have HB1 := Lib.hid hb1
      have HO1 := Lib.hid ho1
      have hw1 := hb1.size
      clear hb1 ho1 S0 S1 CO hfull
      go_wp2
      go_loopw [8, 9] (fun vo tv wr => ∃ (t j cm : Nat) (ao : Option Addr) (o : List Int) (mv : List TMove), t ≤ n1 ∧ vo = .slice ao j cm ∧ tv = .int .i64 (t : Int) ∧ Hid (Below w.heap.size w wr) ∧ Hid (OwnL w.heap.size g n1 cap o wr) ∧ Hid (OwnM w.heap.size (.slice ao j cm) j mv wr) ∧ Hid (∀ q, (Value.slice ao j cm).ownBlock = some q → q ≠ g) ∧ Hid (okO n1 o) ∧ Hid (backAll l1 n1 l0 t = (o, mv)) ∧ Hid (mv.length = j) ∧ j ≤ 10 * t ∧ g < wr.heap.size) (fun _ tv _ => n1 - (intOf tv).toNat)
      case atStart => exact ⟨0, 0, 0, _, l0, [], by omega, rfl, rfl, (by repeat (first | exact HB1.out | refine Below.alloc ?_ (by first | omega | (simp; done) | (simp; omega)) _ | refine Below.setCell ?_ (by first | omega | (simp; done) | (simp; omega)) _)), OwnL.alloc HO1.out _, World.ownsRow_made w1 #[] 0 hw1 (by unfold maxLen; omega) rfl, fun q hq => by have h := HG1.out; simp [Value.ownBlock] at hq; omega, HOK, rfl, rfl, by omega, by have := HG1.out; simp; omega⟩
      case round =>
        obtain ⟨t, j, cm, ao, o, mv, ht, rfl, rfl, HBT, HOL, HOM, HNE, HOO, HST, HLJ, hj, hgw⟩ := hrel
        by_cases hlt : t < n1
        · obtain ⟨wo, hwo⟩ : ∃ wo, wo = wr := ⟨wr, rfl⟩
          subst hwo
          have ht0 : (0 : Int) ≤ (t : Int) := by omega
          have ht1 : (t : Int) < (n1 : Int) := by omega
          go_wp2
          go_loopw [8, 10] (fun vo fv wr => ∃ (f j cm : Nat) (ao : Option Addr) (p : List Int) (mw : List TMove), f ≤ n1 ∧ vo = .slice ao j cm ∧ fv = .int .i64 (f : Int) ∧ Hid (Below w.heap.size w wr) ∧ Hid (OwnL w.heap.size g n1 cap p wr) ∧ Hid (OwnM w.heap.size (.slice ao j cm) j mw wr) ∧ Hid (∀ q, (Value.slice ao j cm).ownBlock = some q → q ≠ g) ∧ Hid (okO n1 p) ∧ Hid (backIn l1 t (o, mv) f = (p, mw)) ∧ Hid (mw.length = j) ∧ j ≤ 10 * t + f ∧ g < wr.heap.size) (fun _ fv _ => n1 - (intOf fv).toNat)
          case atStart => exact ⟨0, j, cm, ao, o, mv, by omega, rfl, rfl, HBT, HOL, HOM, HNE, HOO, rfl, HLJ, by omega, hgw⟩
          case round =>
            obtain ⟨f, j2, cm2, ao2, p, mw, hf, rfl, rfl, HBF, HPL, HPM, HNF, HPO, HIN, HLJ2, hj2, hgw2⟩ := hrel
            by_cases hlf : f < n1
            · have hfp : f < p.length := by rw [HPO.out.1]; exact hlf
              have htp : t < p.length := by rw [HPO.out.1]; exact hlt
              have hfw : f < l1.length := by rw [HWS.out.1]; exact hlf
              have htw : t < l1.length := by rw [HWS.out.1]; exact hlt
              have hN := backN_at (ws := l1) (o := p) hfp hfw htp htw
              have hFACT : 0 < backN l1 t f p → f ≠ t ∧ 1 ≤ backN l1 t f p ∧ backN l1 t f p ≤ 200 ∧ backN l1 t f p ≤ p.getD f 0 ∧ okO n1 (movL p f t (backN l1 t f p)) := back_facts HPO.out HWS.out hlf hlt
              have hb1 := HPO.out.2 f hfp
              have hb2 := HPO.out.2 t htp
              have hb3 := HWS.out.2 f hfw
              have hb4 := HWS.out.2 t htw
              have x1 := HPL.out.cell f hfp
              have x2 := HPL.out.cell t htp
              have ym := (HB.out _ HBF.out)
              obtain ⟨bb, ob, rfl, hbb, y1⟩ := ym.at_ f hfw
              obtain ⟨bb2, ob2, hbe, _, y2⟩ := ym.at_ t htw
              injection hbe with hbe
              injection hbe with e1 e2
              subst e1 e2
              generalize p[f] = pf at x1 hN hb1
              generalize p[t] = pt at x2 hN hb2
              generalize l1[f] = wf at y1 hN hb3
              generalize l1[t] = wt at y2 hN hb4
              obtain ⟨x, hx⟩ : ∃ x, backN l1 t f p = x := ⟨_, rfl⟩
              rw [hx] at hN hFACT
              have HYES : Hid (0 < x → backIn l1 t (o, mv) (f + 1) = (movL p f t x, mw ++ [((f : Int), (t : Int), x)])) := fun h => by rw [backIn, HIN.out, backStep_yes hx h]
              have HNO : Hid (¬ 0 < x → backIn l1 t (o, mv) (f + 1) = (p, mw)) := fun h => by rw [backIn, HIN.out, backStep_no hx h]
              have HFACT := Lib.hid hFACT
              have MN := fun W => l00Min_any (pf - wf) (wt - pt) W
              rw [← hN] at MN
              have hxb : x ≤ 200 := by omega
              have hf0 : (0 : Int) ≤ (f : Int) := by omega
              have hf1 : (f : Int) < (n1 : Int) := by omega
              have hw1' : IntKind.i64.wrap (pf - wf) = pf - wf := IntWalk.i64_in _ (by omega)
              have hw2' : IntKind.i64.wrap (wt - pt) = wt - pt := IntWalk.i64_in _ (by omega)
              clear hx hFACT hN ym
              go_wp2_with fail
              go_region_held3 (fun w' => w'.cell? ⟨g, f, none⟩ = some (.int .i64 pf) ∧ w'.cell? ⟨g, t, none⟩ = some (.int .i64 pt) ∧ w'.cell? ⟨bb, ob + f, none⟩ = some (.int .i64 wf) ∧ w'.cell? ⟨bb, ob + t, none⟩ = some (.int .i64 wt)) (exact ⟨x1, x2, y1, y2⟩) (first | (go_at_call 57; refine (MN _).mono ?_; rintro e w' ⟨rfl, rfl⟩))
              have HB2 : Hid (Below w.heap.size w wr.drew) := HBF.out.drew
              have HPL2 : Hid (OwnL w.heap.size g n1 cap p wr.drew) := HPL.out
              have HPM2 : Hid (OwnM w.heap.size (.slice ao2 j2 cm2) j2 mw wr.drew) := HPM.out
              have hgw3 : g < wr.drew.heap.size := hgw2
              clear x1 x2 y1 y2 HBF HPL HPM hw1' hw2' MN
              generalize wr.drew = w2 at HB2 HPL2 HPM2 hgw3
              by_cases hpos : 0 < x
              · have HN := Lib.hid (HYES.out hpos)
                obtain ⟨hne, hx1, hx2, hx3, hok⟩ := HFACT.out hpos
                have HOK3 := Lib.hid hok
                have hbox : Below w2.heap.size w2 (w2.alloc (.cells #[.int .i64 f, .int .i64 t, .int .i64 x] 36)) := (by repeat (first | exact Below.refl _ _ | refine Below.alloc ?_ (by simp; try omega) _ | refine Below.setCell ?_ (by simp; try omega) _))
                have HBX := Lib.hid hbox
                have SD := l07Send_any w2.heap.size 0 w.heap.size g n1 cap p f t x (w2.alloc (.cells #[.int .i64 f, .int .i64 t, .int .i64 x] 36)) HPO.out.1 hlf hlt hne ⟨hx1, hx2⟩ (okO_tame HPO.out) (OwnL.alloc HPL2.out _) (by omega) (by simp [go_sem]) (by simp [go_sem]) (by simp [go_sem])
                have HSL : Hid (sendL p f t x = movL p f t x) := if_pos hx3
                rw [decide_eq_true hx3] at SD
                clear HYES HNO hok hbox hx3 HFACT
                have hws2 := HB2.out.size
                go_wp2_with (first | (go_at_call 45; refine SD.mono ?_; rintro e w3 ⟨rfl, hg3, ho3⟩; have z0 : w3.cell? ⟨w2.heap.size, 0, none⟩ = some (.int .i64 f) := hg3.cell (a := ⟨w2.heap.size, 0, none⟩) (by simp [go_sem]) (by simp; omega); have z1 : w3.cell? ⟨w2.heap.size, 1, none⟩ = some (.int .i64 t) := hg3.cell (a := ⟨w2.heap.size, 1, none⟩) (by simp [go_sem]) (by simp; omega); have z2 : w3.cell? ⟨w2.heap.size, 2, none⟩ = some (.int .i64 x) := hg3.cell (a := ⟨w2.heap.size, 2, none⟩) (by simp [go_sem]) (by simp; omega); rw [HSL.out] at ho3; have HB3 : Hid (Below w.heap.size w w3) := (two_worlds HB2.out HBX.out).grown hg3 (two_worlds HB2.out HBX.out).size (fun q hq => by injection hq with hq; subst hq; exact HG1.out.1); have HPM3 : Hid (OwnM w.heap.size (.slice ao2 j2 cm2) j2 mw w3) := own_grown (World.ownsRow.alloc HPM2.out _) hg3 HNF.out; have hg3s := hg3.size; simp at hg3s; have HO3 := Lib.hid ho3; have HGE : Hid (∀ q, (Value.slice ao2 j2 cm2).ownBlock = some q → w.heap.size ≤ q) := fun q hq => (HPM3.out.lt q hq).1; have hw3 := HB3.out.size; clear hg3 ho3) | (at_builtin; refine wpList_append_lies _ rfl _ _ 29 rfl w.heap.size 36 HI.out.choose (.agg #[.int .i64 0, .int .i64 0, .int .i64 0]) 3 24 Try.underlying29 HI.out.choose_spec.1 HI.out.choose_spec.2.1 HI.out.choose_spec.2.2.1 HI.out.choose_spec.2.2.2 rfl (by decide) (.slice ao2 j2 cm2) j2 (mw.flatMap cMove) rfl (World.ownsRow.alloc HPM3.out _) ⟨w3.heap.size, 0, none⟩ 1 1 [.int .i64 f, .int .i64 t, .int .i64 x] rfl rfl (World.news_of_block (heap_alloc_new w3 _)) (by intro u hu; simp at hu; rcases hu with rfl | rfl | rfl <;> rfl) (by omega) (by unfold maxLen; omega) (by omega) (by simp; omega) (w3.heap.size + 1) (by simp) ?_))
                intro g2 cap' w4 hown1 hgrow hat hlt2
                have B4 : Hid (Below w.heap.size w w4) := (HB3.out.alloc hw3 _).grown hgrow (by simp; omega) HGE.out
                have O4 : Hid (OwnM w.heap.size (.slice (some ⟨g2, 0, none⟩) (j2 + 1) cap') (j2 + 1) (mw ++ [((f : Int), (t : Int), x)]) w4) := by
                  unfold Hid OwnM; rw [List.flatMap_append]; exact hown1
                have P4 : Hid (OwnL w.heap.size g n1 cap (movL p f t x) w4) := own_grown' (OwnL.alloc HO3.out _) hgrow HNF.out
                have N4 : Hid (∀ q, (Value.slice (some ⟨g2, 0, none⟩) (j2 + 1) cap').ownBlock = some q → q ≠ g) := fun q hq => by
                  simp [Value.ownBlock] at hq
                  subst hq
                  rcases hat with hat | hat
                  · exact HNF.out _ hat
                  · first | omega | (simp at hat; omega)
                have hg4 : g < w4.heap.size := by have := hgrow.size; simp at this; omega
                clear hown1 hgrow hat hlt2 z0 z1 z2
                go_wp2
                go_roundw
                case rel => exact ⟨f + 1, j2 + 1, cap', _, movL p f t x, mw ++ [((f : Int), (t : Int), x)], by omega, rfl, by go_num, B4, P4, O4, N4, HOK3, HN, by unfold Hid; rw [List.length_append, HLJ2.out]; rfl, by omega, hg4⟩
                case measure => simp [intOf]; omega
              · have HN := Lib.hid (HNO.out (by omega))
                clear HYES HNO HFACT
                go_wp2
                go_roundw
                case rel => exact ⟨f + 1, j2, cm2, ao2, p, mw, by omega, rfl, by go_num, HB2, HPL2, HPM2, HNF, HPO, HN, HLJ2, by omega, hgw3⟩
                case measure => simp [intOf]; omega
            · have hfn : f = n1 := by omega
              have HN : Hid (backAll l1 n1 l0 (t + 1) = (p, mw)) := by unfold Hid; rw [backAll, HST.out, ← hfn]; exact HIN.out
              go_wp2
              go_roundw
              case rel => exact ⟨t + 1, j2, cm2, ao2, p, mw, by omega, rfl, by go_num, HBF, HPL, HPM, HNF, HPO, HN, HLJ2, by omega, hgw2⟩
              case measure => simp [intOf]; omega
        · have htn : t = n1 := by omega
          subst htn
          rw [HST.out] at HR
          go_wp2
          go_ret2
          exact givesRs_of HR.out HBT.out HLJ.out HOM.out
  · have HR := Lib.hid (backOf_bad hc e3)
    clear e3 hc h0 h1
    go_enter Try.func29, Try.ntmps29
    go_wp2_with (go_at_call 51; refine CO.mono ?_; rintro e w' ⟨rfl, rfl⟩)
    go_ret2
    exact givesRs_nil HR.out (Below.refl _ _)
end Go.Proofs.Ytoecbbkaokgjeaa
