/-
  DelayRun: what it hands back; the model's walk.
-/
import Derived.Test.YtgjbahnloladfaaRunOk
import Derived.Test.YtgjbahnloladfaaCopies
import Derived.Test.YtgjbahnloladfaaRunMarks
import Derived.Deep.AppendLies
namespace Go.Proofs.Ytgjbahnloladfaa
open Go.RowKit

/-- What DelayRun hands back. -/
def delayOf (l : List Int) (ts : List TRun) (k by_ : Int) : List TRun × Int :=
  if rsB l ts = true then
    (if inB k 0 ((ts.length : Int) - 1) = true ∧ inB by_ 0 100000 = true then
      (if inB ((ts.getD k.toNat ([], 0)).2 + by_) 0 100000 = true then (ts.set k.toNat ((ts.getD k.toNat ([], 0)).1, (ts.getD k.toNat ([], 0)).2 + by_), 0) else ([], 5))
    else ([], 2))
  else ([], 1)
theorem delay_bad {l : List Int} {ts : List TRun} (k by_ : Int) (h : rsB l ts = false) : delayOf l ts k by_ = ([], 1) := by unfold delayOf; rw [h]; rfl
theorem delay_range {l : List Int} {ts : List TRun} {k by_ : Int} (h : rsB l ts = true) (h2 : ¬ (inB k 0 ((ts.length : Int) - 1) = true ∧ inB by_ 0 100000 = true)) : delayOf l ts k by_ = ([], 2) := by unfold delayOf; rw [if_pos h, if_neg h2]
theorem delay_full {l : List Int} {ts : List TRun} {k by_ : Int} {kn : Nat} (h : rsB l ts = true) (h2 : inB k 0 ((ts.length : Int) - 1) = true ∧ inB by_ 0 100000 = true) (hk : k = kn) (hl : kn < ts.length) (h3 : inB (ts[kn].2 + by_) 0 100000 = false) : delayOf l ts k by_ = ([], 5) := by
  subst hk
  unfold delayOf
  rw [if_pos h, if_pos h2, Int.toNat_natCast, List.getD_eq_getElem?_getD, List.getElem?_eq_getElem hl, Option.getD_some, if_neg (by rw [h3]; simp)]
theorem delay_good {l : List Int} {ts : List TRun} {k by_ : Int} {kn : Nat} (h : rsB l ts = true) (h2 : inB k 0 ((ts.length : Int) - 1) = true ∧ inB by_ 0 100000 = true) (hk : k = kn) (hl : kn < ts.length) (h3 : inB (ts[kn].2 + by_) 0 100000 = true) : delayOf l ts k by_ = (ts.set kn (ts[kn].1, ts[kn].2 + by_), 0) := by
  subst hk
  unfold delayOf
  rw [if_pos h, if_pos h2, Int.toNat_natCast, List.getD_eq_getElem?_getD, List.getElem?_eq_getElem hl, Option.getD_some, if_pos h3]
theorem delay_len (l : List Int) (ts : List TRun) (k by_ : Int) (hts : ts.length ≤ 1048576) : (delayOf l ts k by_).1.length ≤ 1048576 := by
  unfold delayOf
  split
  · split
    · split
      · simp; omega
      · simp
    · simp
  · simp
theorem delay_leni (l : List Int) (ts : List TRun) (k by_ : Int) (hts : ∀ i (h : i < ts.length), ts[i].1.length ≤ 1048576) : ∀ i (h : i < (delayOf l ts k by_).1.length), (delayOf l ts k by_).1[i].1.length ≤ 1048576 := by
  have key : ∀ (r : List TRun × Int), (r.1 = [] ∨ ∃ kn b, r.1 = ts.set kn ((ts.getD kn ([], 0)).1, b)) → ∀ i (h : i < r.1.length), r.1[i].1.length ≤ 1048576 := by
    rintro ⟨r1, r2⟩ hr i h
    rcases hr with hr | ⟨kn, b, hr⟩
    · dsimp only at hr h; rw [hr] at h; simp at h
    · dsimp only at hr h ⊢
      subst hr
      have h' : i < ts.length := by simpa using h
      simp only [List.getElem_set]
      split
      · rename_i e
        subst e
        rw [List.getD_eq_getElem?_getD, List.getElem?_eq_getElem h', Option.getD_some]
        exact hts kn h'
      · exact hts i h'
  refine key _ ?_
  unfold delayOf
  split
  · split
    · split
      · exact .inr ⟨_, _, rfl⟩
      · exact .inl rfl
    · exact .inl rfl
  · exact .inl rfl
theorem rsB_way {l : List Int} {ts : List TRun} (h : rsB l ts = true) (i : Nat) (hi : i < ts.length) : 1 ≤ ts[i].1.length ∧ ts[i].1.length ≤ 12 ∧ 0 ≤ ts[i].2 ∧ ts[i].2 ≤ 100000 := by
  unfold rsB at h
  simp only [Bool.and_eq_true, List.all_eq_true] at h
  have := h.2.2 ts[i] (List.getElem_mem hi)
  unfold rnB wyB at this
  simp only [Bool.and_eq_true] at this
  obtain ⟨h1, h2, _⟩ := this
  unfold inB at h1 h2
  simp only [decide_eq_true_eq] at h1 h2
  omega

abbrev OwRun (lo hi : Nat) (v : Value) (ts : List TRun) (w : World) : Prop := OwN lo hi 34 2 2 cRun v ts w
/-- A call hands back runs of its own. -/
def GivesRuns (ts : List TRun) (w : World) (e : Ending) (w' : World) : Prop := Below w.heap.size w w' ∧ ∃ v, e = .returned v ∧ OwRun w.heap.size w'.heap.size v ts w'
def GivesDelay (r : List TRun × Int) (w : World) (e : Ending) (w' : World) : Prop := Gv (fun lo hi v w => OwN lo hi 34 2 2 cRun v r.1 w) (fun v => .returned (.tuple #[v, .int .i64 r.2])) w e w'
theorem givesDelay_of {r : List TRun × Int} {ts : List TRun} {c : Int} {v : Value} {w w' : World} (h : r = (ts, c)) (hb : Below w.heap.size w w') (ho : OwRun w.heap.size w'.heap.size v ts w') : GivesDelay r w (.returned (.tuple #[v, .int .i64 c])) w' := by
  subst h
  exact ⟨hb, _, rfl, ho⟩
theorem givesDelay_nil {r : List TRun × Int} {c : Int} {w w' : World} (h : r = ([], c)) (hb : Below w.heap.size w w') : GivesDelay r w (.returned (.tuple #[.slice none 0 0, .int .i64 c])) w' := by
  subst h
  exact ⟨hb, _, rfl, OwN.nil _ _ _⟩

set_option maxHeartbeats 4000000 in
theorem l06Own_any (a : Option Addr) (ts : List TRun) (n ca : Nat) (w : World) (hn : Hid (ts.length = n)) (ha : RN 1048576 2 cRun w a ts) (hmax : n ≤ 1048576) (hl : Hid (∀ i (h : i < ts.length), 0 < ts[i].1.length)) :
    Calls Try.prog 65 #[.slice a n ca] w (GivesRuns ts w) := by
  have HA : Hid (∀ w', Below w.heap.size w w' → RN 1048576 2 cRun w' a ts) := fun w' h => ha.below h
  have HI : Hid (∃ i0 : TypeInfo, Try.prog.info? 34 = some i0 ∧ i0.zero = some (.agg #[.slice none 0 0, .int .i64 0]) ∧ i0.size = 2 ∧ i0.bytes = 32) := info_parts info34
  clear ha
  go_enter Try.func65, Try.ntmps65
  go_wp2
  go_loopw [3, 4] (fun ov iv wr => ∃ (k : Nat) (ao : Option Addr) (co : Nat), k ≤ n ∧ iv = .int .i64 k ∧ ov = .slice ao k co ∧ Below w.heap.size w wr ∧ Hid (OwRun w.heap.size wr.heap.size (.slice ao k co) (ts.take k) wr)) (fun _ iv _ => n - (intOf iv).toNat)
  case atStart => exact ⟨0, _, _, by omega, rfl, rfl, (Below.refl _ _).alloc (Nat.le_refl _) _, OwN.made w #[] rfl⟩
  case round =>
    obtain ⟨k, ao, co, hk, rfl, rfl, hbel, HO⟩ := hrel
    by_cases hlt : k < n
    · have hka : k < ts.length := by rw [hn.out]; exact hlt
      have hbw := hbel.size
      obtain ⟨b, off, ai, ci, rfl, hbl0, hri, hq, hc⟩ := (HA.out w (Below.refl _ _)).at_ k hka
      have x0 := (hbel.cell (p := ⟨b, off + k * 2 + 0, none⟩) hbl0).trans (hc 0 _ rfl)
      have x1 := (hbel.cell (p := ⟨b, off + k * 2 + 1, none⟩) hbl0).trans (hc 1 _ rfl)
      simp only [Nat.add_zero] at x0
      have hbl : b < wr.heap.size := by omega
      have HRI : Hid (∀ w', Below wr.heap.size wr w' → RI w' ai ts[k].1) := fun w' h => hri.below (hbel.trans (h.mono hbw))
      have hq0 := hl.out k hka
      have HTK : Hid (ts.take (k + 1) = ts.take k ++ [ts[k]]) := List.take_succ_eq_append_getElem hka
      have HKL : Hid ((ts.take k).length = k) := by unfold Hid; rw [List.length_take]; omega
      clear hri hc
      generalize ts[k] = t at x0 x1 HRI hq hq0 HTK
      obtain ⟨t1, t2⟩ := t
      dsimp only at x0 x1 HRI hq hq0 HTK
      generalize hql : t1.length = q at x0 hq hq0
      have HQ := Lib.hid hql
      clear hql
      have hk0 : (0 : Int) ≤ (k : Int) := by omega
      have hk1 : (k : Int) < (n : Int) := by omega
      have HBEL := Lib.hid hbel
      clear hbel
      have HAPP : Hid (∀ w1 g cg, Below wr.drew.heap.size wr.drew w1 → w1.ownsRow wr.drew.heap.size 2 1 (.slice (some ⟨g, 0, none⟩) q cg) q (t1.map (Value.int .i64)) → ∃ xs, (w1.alloc (.cells #[.slice (some ⟨g, 0, none⟩) q cg, .int .i64 t2] 34)).ownsRow w.heap.size 34 2 (.slice ao k co) k xs ∧
          ∀ (g2 cap : Nat) (w5 : World), w5.ownsRow w.heap.size 34 2 (.slice (some ⟨g2, 0, none⟩) (k + 1) cap) (k + 1) (xs ++ [.slice (some ⟨g, 0, none⟩) q cg, .int .i64 t2]) → (w1.alloc (.cells #[.slice (some ⟨g, 0, none⟩) q cg, .int .i64 t2] 34)).grownBy w5 (Value.slice ao k co).ownBlock →
            ((Value.slice ao k co).ownBlock = some g2 ∨ g2 = (w1.alloc (.cells #[.slice (some ⟨g, 0, none⟩) q cg, .int .i64 t2] 34)).heap.size) → g2 < w5.heap.size → OwRun w.heap.size w5.heap.size (.slice (some ⟨g2, 0, none⟩) (k + 1) cap) (ts.take (k + 1)) w5 ∧ Below w.heap.size wr w5) := fun w1 g cg hb1 ho1 => by
        rw [HTK.out]
        exact OwN.grow2 (c := cRun) HO.out hbw HKL.out (((Below.refl _ _).drew.trans hb1).alloc hb1.size _) (.slice (some ⟨g, 0, none⟩) q cg) (t1, t2) (by rw [HQ.out]; exact ho1.alloc _)
      go_wp2
      go_region_held3 (fun w' => w'.cell? ⟨b, off + k * 2, none⟩ = some (.slice ai q ci) ∧ w'.cell? ⟨b, off + k * 2 + 1, none⟩ = some (.int .i64 t2))
        (first | exact ⟨x0, x1⟩ | exact ⟨(hb1.cell (p := ⟨_, _, none⟩) hbl).trans x0, (hb1.cell (p := ⟨_, _, none⟩) hbl).trans x1⟩ | exact ⟨((hb1.alloc hb1.size _).cell (p := ⟨_, _, none⟩) hbl).trans x0, ((hb1.alloc hb1.size _).cell (p := ⟨_, _, none⟩) hbl).trans x1⟩ | exact ⟨(hB5.cell (p := ⟨_, _, none⟩) hbl0).trans x0, (hB5.cell (p := ⟨_, _, none⟩) hbl0).trans x1⟩)
        (first | (go_at_call 75; refine (own_any ai ci q t1 _ HQ hq0 hq (HRI.out _ ((Below.refl _ _).drew))).mono ?_; rintro e w1 ⟨g, cg, rfl, hb1, ho1⟩) | ((with_reducible_and_instances show (if Region.wanted { dst := some 26, op := _, type := _, pos := _, after := _, guard := none } _ = true then _ else _)); obtain ⟨xs, hox, hnext⟩ := HAPP.out w1 g cg hb1 ho1; refine step_append_lies _ (by rfl) _ _ 26 (by rfl) w.heap.size 34 HI.out.choose (.agg #[.slice none 0 0, .int .i64 0]) 2 32 Try.underlying26 HI.out.choose_spec.1 HI.out.choose_spec.2.1 HI.out.choose_spec.2.2.1 HI.out.choose_spec.2.2.2 rfl (by decide) (.slice ao k co) k xs (by rfl) hox ⟨w1.heap.size, 0, none⟩ 1 1 [.slice (some ⟨g, 0, none⟩) q cg, .int .i64 t2] (by rfl) rfl (World.news_of_block (heap_alloc_new w1 _)) (by intro u hu; simp at hu; rcases hu with rfl | rfl <;> rfl) (by decide) (by unfold maxLen; omega) (by omega) (by have := hb1.size; simp at this ⊢; omega) _ rfl ?_; intro g2 cap w5 hown1 hgrow hat hlt5; obtain ⟨hN, hB5⟩ := hnext g2 cap w5 hown1 hgrow hat hlt5))
      all_goals
        have HN5 := Lib.hid hN
        have HB5 := Lib.hid (HBEL.out.trans hB5)
        clear hN hB5 hown1 hgrow hat hlt5 hox hnext hb1 ho1 x0 x1
        go_wp2
        go_roundw
        case rel => exact ⟨k + 1, _, _, by omega, by go_num, rfl, HB5.out, HN5.out⟩
        case measure => simp [intOf]; omega
    · have hkn : k = n := by omega
      subst hkn
      have HR : Hid (GivesRuns ts w (.returned (.slice ao k co)) wr) := ⟨hbel, _, rfl, by have := HO.out; rw [← hn.out, List.take_length] at this; rw [← hn.out]; exact this⟩
      go_wp2
      go_ret
      exact HR.out

set_option maxHeartbeats 4000000 in
theorem specDelayRun_any (w : World) {a0 : Option Addr} {n0 c0 : Nat} (l0 : List Int) (hn0 : Hid (l0.length = n0)) (h0 : RI w a0 l0) (hs0 : n0 ≤ 1048576) (_wf0 : Hid (∀ k ∈ l0, (Lit.int .i64 k).wf = true)) {a1 : Option Addr} {n1 c1 : Nat} (ts1 : List TRun) (hn1 : Hid (ts1.length = n1)) (h1 : RN 1048576 2 cRun w a1 ts1) (hs1 : n1 ≤ 1048576) (_wf1 : Hid (∀ t ∈ ts1, wfRun t)) (f2 : Int) (_wf2 : (Lit.int .i64 f2).wf = true) (f3 : Int) (_wf3 : (Lit.int .i64 f3).wf = true) :
    Calls Try.prog 39 #[.slice a0 n0 c0, .slice a1 n1 c1, .int .i64 f2, .int .i64 f3] w (GivesDelay (delayOf l0 ts1 f2 f3) w) := by
  have OK := l06Ok_any a0 a1 l0 ts1 n0 c0 n1 c1 w hn0 h0 hs0 hn1 h1 hs1
  have HA : Hid (∀ w', Below w.heap.size w w' → RN 1048576 2 cRun w' a1 ts1) := fun w' h => h1.below h
  cases hv : rsB l0 ts1 with
  | false =>
    have HR := Lib.hid (delay_bad f2 f3 hv)
    rw [hv] at OK
    clear h0 h1
    go_enter Try.func39, Try.ntmps39
    go_wp2_with (go_at_call 51; refine OK.mono ?_; rintro e w' ⟨rfl, rfl⟩)
    go_ret2
    exact givesDelay_nil HR.out (Below.refl _ _)
  | true =>
    rw [hv] at OK
    have HV := Lib.hid hv
    clear h0 h1 hv
    cases hk : inB f2 0 ((n1 : Int) - 1) with
    | false =>
      have HR : Hid (delayOf l0 ts1 f2 f3 = ([], 2)) := delay_range HV.out (by rw [hn1.out, hk]; simp)
      go_enter Try.func39, Try.ntmps39
      go_wp2_with (first | (go_at_call 51; refine OK.mono ?_; rintro e w' ⟨rfl, rfl⟩) | (go_at_call 63; refine (l00In_any _ _ _ _).mono ?_; rintro e w' ⟨rfl, rfl⟩))
      go_ret2
      exact givesDelay_nil HR.out (Below.refl _ _)
    | true =>
      cases hb : inB f3 0 100000 with
      | false =>
        have HR : Hid (delayOf l0 ts1 f2 f3 = ([], 2)) := delay_range HV.out (by rw [hb]; simp)
        go_enter Try.func39, Try.ntmps39
        go_wp2_with (first | (go_at_call 51; refine OK.mono ?_; rintro e w' ⟨rfl, rfl⟩) | (go_at_call 63; refine (l00In_any _ _ _ _).mono ?_; rintro e w' ⟨rfl, rfl⟩) | (go_at_call 64; refine (l06Start_any _ _).mono ?_; rintro e w' ⟨rfl, rfl⟩))
        go_ret2
        exact givesDelay_nil HR.out (Below.refl _ _)
      | true =>
        obtain ⟨hk0, hk1⟩ : 0 ≤ f2 ∧ f2 ≤ (n1 : Int) - 1 := by unfold inB at hk; simpa using hk
        obtain ⟨hb0, hb1⟩ : 0 ≤ f3 ∧ f3 ≤ 100000 := by unfold inB at hb; simpa using hb
        have HRG : Hid (inB f2 0 ((ts1.length : Int) - 1) = true ∧ inB f3 0 100000 = true) := ⟨by rw [hn1.out]; exact hk, hb⟩
        obtain ⟨kn, rfl⟩ : ∃ kn : Nat, f2 = kn := ⟨f2.toNat, by omega⟩
        have hka : kn < ts1.length := by rw [hn1.out]; omega
        have HFULL : Hid (inB (ts1[kn].2 + f3) 0 100000 = false → delayOf l0 ts1 kn f3 = ([], 5)) := fun h => delay_full HV.out HRG.out rfl hka h
        have HGOOD : Hid (inB (ts1[kn].2 + f3) 0 100000 = true → delayOf l0 ts1 kn f3 = (ts1.set kn (ts1[kn].1, ts1[kn].2 + f3), 0)) := fun h => delay_good HV.out HRG.out rfl hka h
        obtain ⟨_, _, ht0, ht1⟩ := rsB_way HV.out kn hka
        obtain ⟨b, off, ai, ci, rfl, hbl, hri, hq, hc⟩ := (HA.out w (Below.refl _ _)).at_ kn hka
        have x1 := hc 1 _ rfl
        have hkl : (kn : Int) < (n1 : Int) := by omega
        clear hri hq hc hk0 hk1
        have OWN : Hid (∀ W, Below w.heap.size w W → Calls Try.prog 65 #[.slice (some ⟨b, off, none⟩) n1 c1] W (GivesRuns ts1 W)) := fun W h => l06Own_any _ ts1 n1 c1 W hn1 (HA.out W h) hs1 (fun i hi => by have := rsB_way HV.out i hi; omega)
        have HST : Hid (∀ (W : World) (g cap : Nat), OwRun w.heap.size W.heap.size (.slice (some ⟨g, 0, none⟩) n1 cap) ts1 W → OwRun w.heap.size W.heap.size (.slice (some ⟨g, 0, none⟩) n1 cap) (ts1.set kn (ts1[kn].1, ts1[kn].2 + f3)) (W.setCell ⟨g, kn * 2 + 1, none⟩ (.int .i64 (ts1[kn].2 + f3))) ∧ W.cell? ⟨g, kn * 2 + 1, none⟩ = some (.int .i64 ts1[kn].2) ∧ W.frozen? ⟨g, kn * 2 + 1, none⟩ = false) := fun W g cap h => by
          refine ⟨h.store cRun_len hn1.out kn hka 1 (by omega) _ _ (fun v => rfl), ?_, h.frozen hn1.out _⟩
          obtain ⟨ai, ci, hc, _⟩ := h.at_ cRun_len kn hka
          exact hc 1 _ rfl
        generalize ts1[kn] = t at x1 HFULL HGOOD ht0 ht1 HST
        obtain ⟨t1, t2⟩ := t
        dsimp only at x1 HFULL HGOOD ht0 ht1 HST
        cases hf : inB (t2 + f3) 0 100000 with
        | false =>
          have HR := Lib.hid (HFULL.out hf)
          clear HFULL HGOOD
          go_enter Try.func39, Try.ntmps39
          go_wp2_with (first | (go_at_call 51; refine OK.mono ?_; rintro e w' ⟨rfl, rfl⟩) | (go_at_call 63; refine (l00In_any _ _ _ _).mono ?_; rintro e w' ⟨rfl, rfl⟩) | (go_at_call 64; refine (l06Start_any _ _).mono ?_; rintro e w' ⟨rfl, rfl⟩))
          go_ret2
          exact givesDelay_nil HR.out (Below.refl _ _)
        | true =>
          have HR := Lib.hid (HGOOD.out hf)
          clear HFULL HGOOD
          go_enter Try.func39, Try.ntmps39
          go_wp2_with (first | (go_at_call 51; refine OK.mono ?_; rintro e w' ⟨rfl, rfl⟩) | (go_at_call 63; refine (l00In_any _ _ _ _).mono ?_; rintro e w' ⟨rfl, rfl⟩) | (go_at_call 64; refine (l06Start_any _ _).mono ?_; rintro e w' ⟨rfl, rfl⟩))
          refine (OWN.out _ (Below.refl _ _)).mono ?_
          rintro e w1 ⟨hbx, v1, rfl, ho1⟩
          obtain ⟨g, cap, rfl, hg, _⟩ := ho1.block (by omega)
          rw [hn1.out] at ho1 ⊢
          obtain ⟨ho2, y1, z1⟩ := HST.out w1 g cap ho1
          have HO2 := Lib.hid ho2
          have HBX := Lib.hid hbx
          clear ho1 ho2 hbx
          go_wp2
          go_ret2
          exact givesDelay_of (v := .slice (some ⟨g, 0, none⟩) n1 cap) HR.out (HBX.out.setCell hg _) (HO2.out.widen (Nat.le_refl _) (by simp [World.setCell]))
end Go.Proofs.Ytgjbahnloladfaa
