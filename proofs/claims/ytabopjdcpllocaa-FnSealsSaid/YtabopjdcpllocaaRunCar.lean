/-
  RunCarrier: the model's walk and the program's.
-/
import Derived.Test.YtabopjdcpllocaaSeals2
namespace Go.Proofs.Ytabopjdcpllocaa
open Go.RowKit

def runCar (ts : List TSeal) (k : Int) : List TSeal × Int :=
  if slB ts = true then
    if inB k 0 ((ts.length : Int) - 1) = true then
      if (ts.getD k.toNat (0, 0)).1 = (ts.getD k.toNat (0, 0)).2 then ([], 6)
      else (ts.set k.toNat ((ts.getD k.toNat (0, 0)).1 + 1, (ts.getD k.toNat (0, 0)).2), 0)
    else ([], 2)
  else ([], 1)
theorem runCar_bad {ts : List TSeal} (k : Int) (h : slB ts = false) : runCar ts k = ([], 1) := by unfold runCar; rw [h]; rfl
theorem runCar_range {ts : List TSeal} {k : Int} (h : slB ts = true) (h2 : inB k 0 ((ts.length : Int) - 1) = false) : runCar ts k = ([], 2) := by unfold runCar; rw [if_pos h, h2]; rfl
theorem runCar_worn {ts : List TSeal} {kn : Nat} (h : slB ts = true) (h2 : inB (kn : Int) 0 ((ts.length : Int) - 1) = true) (hk : kn < ts.length) (h3 : ts[kn].1 = ts[kn].2) : runCar ts kn = ([], 6) := by
  unfold runCar
  rw [if_pos h, if_pos h2, Int.toNat_natCast, List.getD_eq_getElem?_getD, List.getElem?_eq_getElem hk, Option.getD_some, if_pos h3]
theorem runCar_good {ts : List TSeal} {kn : Nat} (h : slB ts = true) (h2 : inB (kn : Int) 0 ((ts.length : Int) - 1) = true) (hk : kn < ts.length) (h3 : ¬ ts[kn].1 = ts[kn].2) : runCar ts kn = (ts.set kn (ts[kn].1 + 1, ts[kn].2), 0) := by
  unfold runCar
  rw [if_pos h, if_pos h2, Int.toNat_natCast, List.getD_eq_getElem?_getD, List.getElem?_eq_getElem hk, Option.getD_some, if_neg h3]
theorem runCar_len (ts : List TSeal) (k : Int) (hts : ts.length ≤ 1048576) : (runCar ts k).1.length ≤ 1048576 := by
  unfold runCar
  split
  · split
    · split
      · simp
      · simp; omega
    · simp
  · simp

theorem info54' : (Try.prog.info? 54).map (fun i => (i.zero, i.size, i.bytes)) = some (some (.agg #[.int .i64 0, .int .i64 0]), 2, 16) := by kernel_rfl
theorem seal_cells1 (ts : List TSeal) : ∀ u ∈ ts.flatMap cSeal, u.oneCell' = true := by
  intro u hu
  obtain ⟨t, _, hu⟩ := List.mem_flatMap.1 hu
  simp [cSeal] at hu
  rcases hu with rfl | rfl <;> rfl
/-- The cells of one seal in a row of one's own. -/
theorem seal_own {W : World} {lo g n cap : Nat} {ts : List TSeal} (h : W.ownsRow lo 54 2 (.slice (some ⟨g, 0, none⟩) n cap) n (ts.flatMap cSeal)) (kn : Nat) (hk : kn < ts.length) (x : Int) :
    W.cell? ⟨g, kn * 2, none⟩ = some (.int .i64 ts[kn].1) ∧ W.frozen? ⟨g, kn * 2, none⟩ = false ∧
    (W.setCell ⟨g, kn * 2, none⟩ (.int .i64 x)).ownsRow lo 54 2 (.slice (some ⟨g, 0, none⟩) n cap) n ((ts.set kn (x, ts[kn].2)).flatMap cSeal) := by
  refine ⟨ownsRow_cell h _ _ (by have := rflat_get cSeal_len ts kn hk 0 (by omega); rw [Nat.add_zero] at this; exact this), ownsRow_frozen h _, ?_⟩
  have h2 := ownsRow_set h (kn * 2 + 0) (.int .i64 x)
  rw [rflat_set cSeal_len ts kn hk 0 (by omega) (.int .i64 x) (x, ts[kn].2) rfl] at h2
  exact h2

set_option maxHeartbeats 1000000 in
theorem cloneSeal_any (a : Option Addr) (ca m : Nat) (ts : List TSeal) (w : World) (hm : Hid (ts.length = m)) (hm0 : 0 < m) (hm1 : m ≤ 1048576) (ha : RR 2 cSeal w a ts) :
    Calls Try.prog 44 #[.slice a m ca] w (GivesC 54 2 (ts.flatMap cSeal) m w) := by
  obtain ⟨bb, ob, rfl, hbb, hc⟩ := ha.addr (by rw [hm.out]; exact hm0)
  have he : ∀ W : World, (binOp .eql 25 (.slice (some ⟨bb, ob, none⟩) m ca) (.slice none 0 0)).run Try.prog W = .ok (.bool false) W := fun W => by
    rw [Lib.run_eql_slice_nil W _ _ _ _ _ _ _ Try.underlying25]; rfl
  have HN : Hid (∀ w', Below w.heap.size w w' → ∀ j u, (ts.flatMap cSeal)[j]? = some u → w'.cell? ((⟨bb, ob, none⟩ : Addr).add j) = some u) := fun w' hb => news_recs (by omega) cSeal_len (fun i hi j v hj => (hb.cell (p := ⟨bb, ob + i * 2 + j, none⟩) hbb).trans (hc i hi j v hj))
  have HL : Hid ((ts.flatMap cSeal).length = m * 2) := by unfold Hid; rw [rflat_length cSeal_len, hm.out]
  have HF := Lib.hid (seal_cells1 ts)
  have HI : Hid (∃ i0 : TypeInfo, Try.prog.info? 54 = some i0 ∧ i0.zero = some (.agg #[.int .i64 0, .int .i64 0]) ∧ i0.size = 2 ∧ i0.bytes = 16) := info_parts info54'
  clear hc hbb ha
  go_enter Try.func44, Try.ntmps44
  go_wp2_with (at_builtin; refine wpList_append_clone _ rfl _ _ 25 rfl w.heap.size 54 HI.out.choose (.agg #[.int .i64 0, .int .i64 0]) 2 16 Try.underlying25 HI.out.choose_spec.1 HI.out.choose_spec.2.1 HI.out.choose_spec.2.2.1 HI.out.choose_spec.2.2.2 rfl (by decide) w.heap.size rfl (World.ownsRow_made w #[] 0 (Nat.le_refl _) (by unfold maxLen; omega) rfl) ⟨bb, ob, none⟩ m ca _ rfl HL.out (HN.out _ ((Below.refl _ _).alloc (Nat.le_refl _) _)) HF.out (by unfold maxLen; omega) (by omega) (Nat.le_trans (Nat.le_refl _) (by simp)) ?_)
  intro g cap w1 hown1 hgrow hat
  have HB : Hid (Below w.heap.size w w1) := ((Below.refl _ _).alloc (Nat.le_refl _) _).grown hgrow (by simp) (fun k hk => by simp at hk; omega)
  have HO := Lib.hid hown1
  clear hown1 hgrow hat
  go_wp2
  go_ret
  exact ⟨g, cap, rfl, HB.out, own_ge HO.out, HO.out⟩
theorem isWorn_any (x y : Int) (w : World) : Calls Try.prog 43 #[.agg #[.int .i64 x, .int .i64 y]] w fun e w' => e = .returned (.bool (decide (x = y))) ∧ Below w.heap.size w w' := by
  rcases eq_ways x y with ⟨⟨e1, e2⟩, e3⟩ | ⟨⟨e1, e2⟩, e3⟩
  · have HR : Hid (decide (x = y) = true) := decide_eq_true e3
    clear e3
    go_enter Try.func43, Try.ntmps43
    go_wp2
    go_ret
    exact ⟨ret_bool (by rw [HR.out]), (by repeat (first | exact Below.refl _ _ | refine Below.alloc ?_ (by simp; try omega) _ | refine Below.setCell ?_ (by simp; try omega) _))⟩
  · have HR : Hid (decide (x = y) = false) := decide_eq_false e3
    clear e3
    go_enter Try.func43, Try.ntmps43
    go_wp2
    go_ret
    exact ⟨ret_bool (by rw [HR.out]), (by repeat (first | exact Below.refl _ _ | refine Below.alloc ?_ (by simp; try omega) _ | refine Below.setCell ?_ (by simp; try omega) _))⟩
abbrev SealE : TypeId := 54

set_option maxHeartbeats 4000000 in
theorem specRunCarrier_any (w : World) {a0 : Option Addr} {n0 c0 : Nat} (ts0 : List TSeal) (hn0 : Hid (ts0.length = n0)) (h0 : RR 2 cSeal w a0 ts0) (hs0 : n0 ≤ 1048576) (_wf0 : Hid (∀ t ∈ ts0, wfSeal t)) (f1 : Int) (_wf1 : (Lit.int .i64 f1).wf = true) :
    Calls Try.prog 14 #[.slice a0 n0 c0, .int .i64 f1] w (GivesRs 54 2 cSeal (runCar ts0 f1) w) := by
  have HA : Hid (∀ w', Below w.heap.size w w' → RR 2 cSeal w' a0 ts0) := fun w' h => h0.below h
  have SE := l07Seals_any a0 ts0 n0 c0 w hn0 h0 hs0
  clear h0
  cases hv : slB ts0 with
  | false =>
    rw [hv] at SE
    have HR := Lib.hid (runCar_bad f1 hv)
    clear hv
    go_enter Try.func14, Try.ntmps14
    go_wp2_with (go_at_call 36; refine SE.mono ?_; rintro e w1 ⟨rfl, hb1⟩)
    go_ret2
    exact givesRs_nil HR.out hb1
  | true =>
    have HV := Lib.hid hv
    rw [hv] at SE
    clear hv
    have hfew : n0 ≤ 60 := by have := slB_few HV.out; rw [hn0.out] at this; exact this
    cases hk : inB f1 0 ((n0 : Int) - 1) with
    | false =>
      have HR : Hid (runCar ts0 f1 = ([], 2)) := runCar_range HV.out (by rw [hn0.out]; exact hk)
      go_enter Try.func14, Try.ntmps14
      go_wp2_with (first | (go_at_call 36; refine SE.mono ?_; rintro e w1 ⟨rfl, hb1⟩) | (go_at_call 40; refine (l00In_any _ _ _ _).mono ?_; rintro e w' ⟨rfl, rfl⟩))
      go_ret2
      exact givesRs_nil HR.out hb1
    | true =>
      obtain ⟨hk0, hk1⟩ := inB_of hk
      obtain ⟨kn, rfl⟩ : ∃ kn : Nat, f1 = kn := ⟨f1.toNat, by omega⟩
      have hka : kn < ts0.length := by rw [hn0.out]; omega
      have HKI : Hid (inB (kn : Int) 0 ((ts0.length : Int) - 1) = true) := by unfold Hid; rw [hn0.out]; exact hk
      have HW : Hid (ts0[kn].1 = ts0[kn].2 → runCar ts0 kn = ([], 6)) := fun h => runCar_worn HV.out HKI.out hka h
      have HG : Hid (¬ ts0[kn].1 = ts0[kn].2 → runCar ts0 kn = (ts0.set kn (ts0[kn].1 + 1, ts0[kn].2), 0)) := fun h => runCar_good HV.out HKI.out hka h
      have hat := slB_at HV.out kn hka
      obtain ⟨b, off, rfl, hbl, hc⟩ := (HA.out _ (Below.refl _ _)).at_ kn hka
      have y0 := hc 0 _ rfl
      have y1 := hc 1 _ rfl
      simp only [Nat.add_zero] at y0
      have HY := Lib.hid (And.intro y0 y1)
      clear hc y0 y1
      have HN : Hid (∀ w', Below w.heap.size w w' → ∀ j u, (ts0.flatMap cSeal)[j]? = some u → w'.cell? ((⟨b, off, none⟩ : Addr).add j) = some u) := fun w' hb => by
        obtain ⟨b2, off2, hbe, hb2, hc2⟩ := (HA.out w (Below.refl _ _)).addr (by omega)
        injection hbe with hbe
        injection hbe with e1 e2
        subst e1 e2
        exact news_recs (by omega) cSeal_len (fun i hi j v hj => (hb.cell (p := ⟨b, off + i * 2 + j, none⟩) hb2).trans (hc2 i hi j v hj))
      have HST : Hid (∀ (W : World) (lo g cap : Nat), W.ownsRow lo 54 2 (.slice (some ⟨g, 0, none⟩) n0 cap) n0 (ts0.flatMap cSeal) → W.cell? ⟨g, kn * 2, none⟩ = some (.int .i64 ts0[kn].1) ∧ W.frozen? ⟨g, kn * 2, none⟩ = false ∧ (W.setCell ⟨g, kn * 2, none⟩ (.int .i64 (ts0[kn].1 + 1))).ownsRow lo 54 2 (.slice (some ⟨g, 0, none⟩) n0 cap) n0 ((ts0.set kn (ts0[kn].1 + 1, ts0[kn].2)).flatMap cSeal)) := fun W lo g cap h => seal_own h kn hka _
      have HL : Hid ((ts0.flatMap cSeal).length = n0 * 2) := by unfold Hid; rw [rflat_length cSeal_len, hn0.out]
      have HF := Lib.hid (seal_cells1 ts0)
      have HI : Hid (∃ i0 : TypeInfo, Try.prog.info? 54 = some i0 ∧ i0.zero = some (.agg #[.int .i64 0, .int .i64 0]) ∧ i0.size = 2 ∧ i0.bytes = 16) := info_parts info54'
      have HLS : Hid ((ts0.set kn (ts0[kn].1 + 1, ts0[kn].2)).length = n0) := by unfold Hid; rw [List.length_set]; exact hn0.out
      generalize ts0[kn] = t at HY HW HG hat HST HLS
      obtain ⟨t1, t2⟩ := t
      dsimp only at HY HW HG hat HST HLS
      have hkl : (kn : Int) < (n0 : Int) := by omega
      rcases eq_ways t1 t2 with ⟨⟨e1, e2⟩, e3⟩ | ⟨⟨e1, e2⟩, e3⟩
      · have HR := Lib.hid (HW.out e3)
        clear e3 HW HG
        go_enter Try.func14, Try.ntmps14
        go_wp2_with (first | (go_at_call 36; refine SE.mono ?_; rintro e w1 ⟨rfl, hb1⟩) | (go_at_call 40; refine (l00In_any _ _ _ _).mono ?_; rintro e w' ⟨rfl, rfl⟩))
        have x0 := (hb1.cell (p := ⟨b, off + kn * 2, none⟩) hbl).trans HY.out.1
        have x1 := (hb1.cell (p := ⟨b, off + kn * 2 + 1, none⟩) hbl).trans HY.out.2
        go_quiet (fail)
        go_wp2
        go_ret2
        exact givesRs_nil HR.out (Below.drewN' hb1 _)
      · have HR := Lib.hid (HG.out e3)
        clear e3 HW HG
        go_enter Try.func14, Try.ntmps14
        go_wp2_with (first | (go_at_call 36; refine SE.mono ?_; rintro e w1 ⟨rfl, hb1⟩) | (go_at_call 40; refine (l00In_any _ _ _ _).mono ?_; rintro e w' ⟨rfl, rfl⟩))
        have x0 := (hb1.cell (p := ⟨b, off + kn * 2, none⟩) hbl).trans HY.out.1
        have x1 := (hb1.cell (p := ⟨b, off + kn * 2 + 1, none⟩) hbl).trans HY.out.2
        go_quiet (fail)
        have HB2 : Hid (Below w.heap.size w (w1.drewN nq)) := Below.drewN' hb1 _
        clear x0 x1 hb1
        generalize w1.drewN nq = w2 at HB2
        have hw2 := HB2.out.size
        go_wp2_with (at_builtin; refine wpList_append_clone _ rfl _ _ 25 rfl w.heap.size 54 HI.out.choose (.agg #[.int .i64 0, .int .i64 0]) 2 16 Try.underlying25 HI.out.choose_spec.1 HI.out.choose_spec.2.1 HI.out.choose_spec.2.2.1 HI.out.choose_spec.2.2.2 rfl (by decide) w2.heap.size rfl (World.ownsRow_made w2 #[] 0 hw2 (by unfold maxLen; omega) rfl) ⟨b, off, none⟩ n0 c0 _ rfl HL.out (HN.out _ (HB2.out.alloc hw2 _)) HF.out (by unfold maxLen; omega) (by omega) (by simp; omega) ?_)
        intro g cap w3 hown1 hgrow hat2
        have HB : Hid (Below w.heap.size w w3) := (HB2.out.alloc hw2 _).grown hgrow (by simp; omega) (fun k hk => by simp at hk; omega)
        obtain ⟨z0, z1, z2⟩ := HST.out w3 _ g cap hown1
        have HO := Lib.hid z2
        have HGE := Lib.hid (own_ge hown1)
        clear hown1 hgrow hat2 z2
        go_wp2
        go_ret2
        exact givesRs_of HR.out (HB.out.setCell HGE.out _) HLS.out HO.out

set_option maxHeartbeats 4000000 in
theorem implRunCarrier_any (w : World) {a0 : Option Addr} {n0 c0 : Nat} (ts0 : List TSeal) (hn0 : Hid (ts0.length = n0)) (h0 : RR 2 cSeal w a0 ts0) (hs0 : n0 ≤ 1048576) (_wf0 : Hid (∀ t ∈ ts0, wfSeal t)) (f1 : Int) (_wf1 : (Lit.int .i64 f1).wf = true) :
    Calls Try.prog 15 #[.slice a0 n0 c0, .int .i64 f1] w (GivesRs 54 2 cSeal (runCar ts0 f1) w) := by
  have HA : Hid (∀ w', Below w.heap.size w w' → RR 2 cSeal w' a0 ts0) := fun w' h => h0.below h
  have SE := checkSeals_any a0 ts0 n0 c0 w hn0 h0 hs0
  clear h0
  have CR := fun (c : Int) (W : World) => checkRange_any c f1 ((n0 : Int) - 1) W
  cases hv : slB ts0 with
  | false =>
    have HC : scode ts0 = 1 := by unfold scode; rw [hv]; rfl
    rw [HC] at SE
    have HR := Lib.hid (runCar_bad f1 hv)
    have hrc : rangeCode 1 f1 ((n0 : Int) - 1) = 1 := rfl
    have CR1 := fun W => CR 1 W
    simp only [hrc] at CR1
    clear hv HC CR hrc
    go_enter Try.func15, Try.ntmps15
    go_wp2_with (first | (go_at_call 42; refine SE.mono ?_; rintro e w1 ⟨rfl, hb1⟩) | (go_at_call 41; refine (CR1 _).mono ?_; rintro e w' ⟨rfl, rfl⟩))
    go_ret2
    exact givesRs_nil HR.out hb1
  | true =>
    have HC : scode ts0 = 0 := by unfold scode; rw [hv]; rfl
    have HV := Lib.hid hv
    rw [HC] at SE
    clear hv HC
    have hfew : n0 ≤ 60 := by have := slB_few HV.out; rw [hn0.out] at this; exact this
    cases hk : inB f1 0 ((n0 : Int) - 1) with
    | false =>
      have HR : Hid (runCar ts0 f1 = ([], 2)) := runCar_range HV.out (by rw [hn0.out]; exact hk)
      have hrc : rangeCode 0 f1 ((n0 : Int) - 1) = 2 := by unfold rangeCode; rw [hk]; rfl
      have CR1 := fun W => CR 0 W
      simp only [hrc] at CR1
      clear CR hrc hk
      go_enter Try.func15, Try.ntmps15
      go_wp2_with (first | (go_at_call 42; refine SE.mono ?_; rintro e w1 ⟨rfl, hb1⟩) | (go_at_call 41; refine (CR1 _).mono ?_; rintro e w' ⟨rfl, rfl⟩))
      go_ret2
      exact givesRs_nil HR.out hb1
    | true =>
      have hrc : rangeCode 0 f1 ((n0 : Int) - 1) = 0 := by unfold rangeCode; rw [hk]; rfl
      have CR1 := fun W => CR 0 W
      simp only [hrc] at CR1
      clear CR hrc
      obtain ⟨hk0, hk1⟩ := inB_of hk
      obtain ⟨kn, rfl⟩ : ∃ kn : Nat, f1 = kn := ⟨f1.toNat, by omega⟩
      have hka : kn < ts0.length := by rw [hn0.out]; omega
      have HKI : Hid (inB (kn : Int) 0 ((ts0.length : Int) - 1) = true) := by unfold Hid; rw [hn0.out]; exact hk
      have HW : Hid (ts0[kn].1 = ts0[kn].2 → runCar ts0 kn = ([], 6)) := fun h => runCar_worn HV.out HKI.out hka h
      have HG : Hid (¬ ts0[kn].1 = ts0[kn].2 → runCar ts0 kn = (ts0.set kn (ts0[kn].1 + 1, ts0[kn].2), 0)) := fun h => runCar_good HV.out HKI.out hka h
      have hat := slB_at HV.out kn hka
      obtain ⟨b, off, rfl, hbl, hc⟩ := (HA.out _ (Below.refl _ _)).at_ kn hka
      have y0 := hc 0 _ rfl
      have y1 := hc 1 _ rfl
      simp only [Nat.add_zero] at y0
      have HY := Lib.hid (And.intro y0 y1)
      clear hc y0 y1 hk
      have HCL : Hid (∀ W, Below w.heap.size w W → Calls Try.prog 44 #[.slice (some ⟨b, off, none⟩) n0 c0] W (GivesC 54 2 (ts0.flatMap cSeal) n0 W)) := fun W h => cloneSeal_any _ c0 n0 ts0 W hn0 (by omega) hs0 (HA.out W h)
      have HST : Hid (∀ (W : World) (lo g cap : Nat), W.ownsRow lo 54 2 (.slice (some ⟨g, 0, none⟩) n0 cap) n0 (ts0.flatMap cSeal) → W.cell? ⟨g, kn * 2, none⟩ = some (.int .i64 ts0[kn].1) ∧ W.frozen? ⟨g, kn * 2, none⟩ = false ∧ (W.setCell ⟨g, kn * 2, none⟩ (.int .i64 (ts0[kn].1 + 1))).ownsRow lo 54 2 (.slice (some ⟨g, 0, none⟩) n0 cap) n0 ((ts0.set kn (ts0[kn].1 + 1, ts0[kn].2)).flatMap cSeal)) := fun W lo g cap h => seal_own h kn hka _
      have HLS : Hid ((ts0.set kn (ts0[kn].1 + 1, ts0[kn].2)).length = n0) := by unfold Hid; rw [List.length_set]; exact hn0.out
      generalize ts0[kn] = t at HY HW HG hat HST HLS
      obtain ⟨t1, t2⟩ := t
      dsimp only at HY HW HG hat HST HLS
      have hkl : (kn : Int) < (n0 : Int) := by omega
      have IW := fun W => isWorn_any t1 t2 W
      by_cases e3 : t1 = t2
      · have HR := Lib.hid (HW.out e3)
        simp only [decide_eq_true e3] at IW
        clear e3 HW HG
        go_enter Try.func15, Try.ntmps15
        go_wp2_with (first | (go_at_call 42; refine SE.mono ?_; rintro e w1 ⟨rfl, hb1⟩) | (go_at_call 41; refine (CR1 _).mono ?_; rintro e w' ⟨rfl, rfl⟩; have x0 := (hb1.cell (p := ⟨b, off + kn * 2, none⟩) hbl).trans HY.out.1; have x1 := (hb1.cell (p := ⟨b, off + kn * 2 + 1, none⟩) hbl).trans HY.out.2) | (go_at_call 43; refine (IW _).mono ?_; rintro e w2 ⟨rfl, hb2⟩))
        go_ret2
        exact givesRs_nil HR.out (two_worlds hb1 hb2)
      · have HR := Lib.hid (HG.out e3)
        simp only [decide_eq_false e3] at IW
        clear e3 HW HG
        go_enter Try.func15, Try.ntmps15
        go_wp2_with (first | (go_at_call 42; refine SE.mono ?_; rintro e w1 ⟨rfl, hb1⟩) | (go_at_call 41; refine (CR1 _).mono ?_; rintro e w' ⟨rfl, rfl⟩; have x0 := (hb1.cell (p := ⟨b, off + kn * 2, none⟩) hbl).trans HY.out.1; have x1 := (hb1.cell (p := ⟨b, off + kn * 2 + 1, none⟩) hbl).trans HY.out.2) | (go_at_call 43; refine (IW _).mono ?_; rintro e w2 ⟨rfl, hb2⟩))
        have HB2 := Lib.hid (two_worlds hb1 hb2)
        clear hb1 hb2 x0 x1
        refine (HCL.out _ HB2.out).mono ?_
        rintro e w3 ⟨g, cap, rfl, hb3, hg3, ho3⟩
        obtain ⟨z0, z1, z2⟩ := HST.out w3 _ g cap ho3
        have HB := Lib.hid (two_worlds HB2.out hb3)
        have HO := Lib.hid (own_lo z2 HB2.out.size)
        have HGE : Hid (w.heap.size ≤ g) := by unfold Hid; have := HB2.out.size; omega
        clear hb3 ho3 z2
        go_wp2
        go_ret2
        exact givesRs_of HR.out (HB.out.setCell HGE.out _) HLS.out HO.out
end Go.Proofs.Ytabopjdcpllocaa
