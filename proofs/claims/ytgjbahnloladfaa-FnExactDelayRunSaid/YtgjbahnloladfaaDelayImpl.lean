/-
  DelayRun: the program's walk; the theorems that the law takes.
-/
import Derived.Test.YtgjbahnloladfaaDelaySpec
namespace Go.Proofs.Ytgjbahnloladfaa
open Go.RowKit

def rangeCode (c x hi : Int) : Int := if c = 0 then (if inB x 0 hi = true then 0 else 2) else c
theorem checkRange_any (c x hi : Int) (w : World) : Calls Try.prog 66 #[.int .i64 c, .int .i64 x, .int .i64 hi] w fun e w' => e = .returned (.int .i64 (rangeCode c x hi)) ∧ w = w' := by
  rcases eq_ways c 0 with ⟨⟨e1, e2⟩, e3⟩ | ⟨⟨e1, e2⟩, e3⟩
  · subst e3
    cases h : inB x 0 hi with
    | true =>
      have HR : Hid (rangeCode 0 x hi = 0) := by unfold Hid rangeCode; rw [if_pos rfl, if_pos h]
      go_enter Try.func66, Try.ntmps66
      go_wp2_with (go_at_call 54; refine (isWithin_any _ _ _ _).mono ?_; rintro e w' ⟨rfl, rfl⟩)
      go_ret
      exact ⟨ret_int HR.out.symm, rfl⟩
    | false =>
      have HR : Hid (rangeCode 0 x hi = 2) := by unfold Hid rangeCode; rw [if_pos rfl, if_neg (by rw [h]; simp)]
      go_enter Try.func66, Try.ntmps66
      go_wp2_with (go_at_call 54; refine (isWithin_any _ _ _ _).mono ?_; rintro e w' ⟨rfl, rfl⟩)
      go_ret
      exact ⟨ret_int HR.out.symm, rfl⟩
  · have HR : Hid (rangeCode c x hi = c) := by unfold Hid rangeCode; rw [if_neg e3]
    clear e3
    go_enter Try.func66, Try.ntmps66
    go_wp2
    go_ret
    exact ⟨ret_int HR.out.symm, rfl⟩
/-- The three tests of DelayRun, one behind the other. -/
theorem codes_of (l : List Int) (ts : List TRun) (k by_ : Int) : rangeCode (rangeCode (rcode l ts) k ((ts.length : Int) - 1)) by_ 100000 = (if rsB l ts = true then (if inB k 0 ((ts.length : Int) - 1) = true ∧ inB by_ 0 100000 = true then 0 else 2) else 1) := by
  unfold rangeCode rcode
  by_cases h : rsB l ts = true
  · rw [if_pos h, if_pos h, if_pos rfl]
    by_cases h1 : inB k 0 ((ts.length : Int) - 1) = true
    · rw [if_pos h1, if_pos rfl]
      by_cases h2 : inB by_ 0 100000 = true
      · rw [if_pos h2, if_pos ⟨h1, h2⟩]
      · rw [if_neg h2, if_neg (fun h => h2 h.2)]
    · rw [if_neg h1, if_neg (by decide), if_neg (fun h => h1 h.1)]
  · rw [if_neg h, if_neg h]
    simp

set_option maxHeartbeats 8000000 in
theorem implDelayRun_any (w : World) {a0 : Option Addr} {n0 c0 : Nat} (l0 : List Int) (hn0 : Hid (l0.length = n0)) (h0 : RI w a0 l0) (hs0 : n0 ≤ 1048576) (_wf0 : Hid (∀ k ∈ l0, (Lit.int .i64 k).wf = true)) {a1 : Option Addr} {n1 c1 : Nat} (ts1 : List TRun) (hn1 : Hid (ts1.length = n1)) (h1 : RN 1048576 2 cRun w a1 ts1) (hs1 : n1 ≤ 1048576) (_wf1 : Hid (∀ t ∈ ts1, wfRun t)) (f2 : Int) (_wf2 : (Lit.int .i64 f2).wf = true) (f3 : Int) (_wf3 : (Lit.int .i64 f3).wf = true) :
    Calls Try.prog 40 #[.slice a0 n0 c0, .slice a1 n1 c1, .int .i64 f2, .int .i64 f3] w (GivesDelay (delayOf l0 ts1 f2 f3) w) := by
  have CK := checkRuns_any a0 a1 l0 ts1 n0 c0 n1 c1 w hn0 h0 hs0 hn1 h1 hs1
  have HA : Hid (∀ w', Below w.heap.size w w' → RN 1048576 2 cRun w' a1 ts1) := fun w' h => h1.below h
  obtain ⟨rc, hrc⟩ : ∃ rc, rcode l0 ts1 = rc := ⟨_, rfl⟩
  rw [hrc] at CK
  have HCODE := Lib.hid (codes_of l0 ts1 f2 f3)
  rw [hrc, hn1.out] at HCODE
  clear h0 h1 hrc
  obtain ⟨c2, hc2⟩ : ∃ c2, rangeCode (rangeCode rc f2 ((n1 : Int) - 1)) f3 100000 = c2 := ⟨_, rfl⟩
  have HC2 := Lib.hid hc2
  rw [hc2] at HCODE
  clear hc2
  rcases eq_ways c2 0 with ⟨⟨e1, e2⟩, e3⟩ | ⟨⟨e1, e2⟩, e3⟩
  · -- all three tests hold
    have HV : Hid (rsB l0 ts1 = true ∧ inB f2 0 ((n1 : Int) - 1) = true ∧ inB f3 0 100000 = true) := by
      have := HCODE.out
      rw [e3] at this
      by_cases h : rsB l0 ts1 = true
      · rw [if_pos h] at this
        by_cases h1 : inB f2 0 ((n1 : Int) - 1) = true ∧ inB f3 0 100000 = true
        · exact ⟨h, h1⟩
        · rw [if_neg h1] at this; exact absurd this (by decide)
      · rw [if_neg h] at this; exact absurd this (by decide)
    clear e3
    obtain ⟨hk0, hk1⟩ : 0 ≤ f2 ∧ f2 ≤ (n1 : Int) - 1 := by have := HV.out.2.1; unfold inB at this; simpa using this
    obtain ⟨hb0, hb1⟩ : 0 ≤ f3 ∧ f3 ≤ 100000 := by have := HV.out.2.2; unfold inB at this; simpa using this
    have HRG : Hid (inB f2 0 ((ts1.length : Int) - 1) = true ∧ inB f3 0 100000 = true) := ⟨by rw [hn1.out]; exact HV.out.2.1, HV.out.2.2⟩
    obtain ⟨kn, rfl⟩ : ∃ kn : Nat, f2 = kn := ⟨f2.toNat, by omega⟩
    have hka : kn < ts1.length := by rw [hn1.out]; omega
    have HFULL : Hid (inB (ts1[kn].2 + f3) 0 100000 = false → delayOf l0 ts1 kn f3 = ([], 5)) := fun h => delay_full HV.out.1 HRG.out rfl hka h
    have HGOOD : Hid (inB (ts1[kn].2 + f3) 0 100000 = true → delayOf l0 ts1 kn f3 = (ts1.set kn (ts1[kn].1, ts1[kn].2 + f3), 0)) := fun h => delay_good HV.out.1 HRG.out rfl hka h
    obtain ⟨_, _, ht0, ht1⟩ := rsB_way HV.out.1 kn hka
    obtain ⟨b, off, ai, ci, rfl, hbl, hri, hq, hc⟩ := (HA.out w (Below.refl _ _)).at_ kn hka
    have X1 := Lib.hid (hc 1 _ rfl)
    have hkl : (kn : Int) < (n1 : Int) := by omega
    clear hri hq hc hk0 hk1
    have HST : Hid (∀ (W : World) (g : Nat), OwRun g W.heap.size (.slice (some ⟨g, 0, none⟩) n1 n1) ts1 W → OwRun g W.heap.size (.slice (some ⟨g, 0, none⟩) n1 n1) (ts1.set kn (ts1[kn].1, ts1[kn].2 + f3)) (W.setCell ⟨g, kn * 2 + 1, none⟩ (.int .i64 (ts1[kn].2 + f3))) ∧ W.cell? ⟨g, kn * 2 + 1, none⟩ = some (.int .i64 ts1[kn].2) ∧ W.frozen? ⟨g, kn * 2 + 1, none⟩ = false) := fun W g h => by
      refine ⟨h.store cRun_len hn1.out kn hka 1 (by omega) _ _ (fun v => rfl), ?_, h.frozen hn1.out _⟩
      obtain ⟨ai, ci, hc, _⟩ := h.at_ cRun_len kn hka
      exact hc 1 _ rfl
    generalize ts1[kn] = t at X1 HFULL HGOOD ht0 ht1 HST
    obtain ⟨t1, t2⟩ := t
    dsimp only at X1 HFULL HGOOD ht0 ht1 HST
    by_cases hf : 100000 < t2 + f3
    · have HR := Lib.hid (HFULL.out (by unfold inB; simp; omega))
      clear HFULL HGOOD
      go_enter Try.func40, Try.ntmps40
      go_wp2_with (first | (go_at_call 46; refine CK.mono ?_; rintro e w1 ⟨rfl, hbx⟩; have hz1 := X1.out; rw [← hbx.cell (p := ⟨_, _, none⟩) hbl] at hz1) | (go_at_call 66; refine (checkRange_any _ _ _ _).mono ?_; rintro e w' ⟨rfl, rfl⟩; (try rw [HC2.out])))
      go_ret2
      exact givesDelay_nil HR.out hbx
    · have HR := Lib.hid (HGOOD.out (by unfold inB; simp; omega))
      clear HFULL HGOOD
      obtain ⟨i0, hi, hz0, hz1, hz2⟩ := info_parts info34
      have hmk := fun W => run_make_rowN (P := Try.prog) 26 34 i0 _ Try.underlying26 hi hz0 .i64 .i64 n1 n1 (Nat.le_refl _) (by rw [hz2]; omega) (by omega) W
      rw [hz1] at hmk
      clear hi hz0 hz1 hz2
      have HSZ : Hid ((madeCells (Value.cells (.agg #[.slice none 0 0, .int .i64 0])) (n1 * 2)).size = n1 * 2) := size_madeCells _ _
      generalize madeCells (Value.cells (.agg #[.slice none 0 0, .int .i64 0])) (n1 * 2) = cur0 at hmk HSZ
      go_enter Try.func40, Try.ntmps40
      go_wp2_with (first | (go_at_call 46; refine CK.mono ?_; rintro e w1 ⟨rfl, hbx⟩; have hz1 := X1.out; rw [← hbx.cell (p := ⟨_, _, none⟩) hbl] at hz1) | (go_at_call 66; refine (checkRange_any _ _ _ _).mono ?_; rintro e w' ⟨rfl, rfl⟩; (try rw [HC2.out])))
      have HBX := Lib.hid hbx
      have hw1 : w.heap.size ≤ w1.heap.size := hbx.size
      clear hz1 hbx hmk CK
      go_loopw [41] (fun iv wr => ∃ (k : Nat) (cur : Array Value), k ≤ n1 ∧ iv = .int .i64 k ∧ Below w1.heap.size w1 wr ∧ Hid (wr.heap[w1.heap.size]? = some (.cells cur 34 (0, 0))) ∧ Hid (cur.size = n1 * 2) ∧ HalfN w1.heap.size 2 2 cRun ts1 cur wr k) (fun iv _ => n1 - (intOf iv).toNat)
      case atStart => exact ⟨0, cur0, by omega, rfl, (Below.refl _ _).alloc (Nat.le_refl _) _, heap_alloc_new w1 _, HSZ, HalfN.zero _ _ _ _ _ _ _⟩
      case round =>
        obtain ⟨k, cur, hk, rfl, hbel, HG, HS, hhalf⟩ := hrel
        have HH := Lib.hid hhalf
        clear hhalf
        have hgl : w1.heap.size < wr.heap.size := (Array.getElem?_eq_some_iff.1 HG.out).1
        by_cases hlt : k < n1
        · have hkb : k < ts1.length := by rw [hn1.out]; exact hlt
          obtain ⟨b2, off2, ai, ci, hbe, hbl2, hri, hq, hc⟩ := (HA.out w (Below.refl _ _)).at_ k hkb
          injection hbe with hbe
          injection hbe with hb1 hb2
          subst hb1 hb2
          have hbw : Below w.heap.size w wr := HBX.out.trans (hbel.mono hw1)
          have x0 := (hbw.cell (p := ⟨b, off + k * 2 + 0, none⟩) hbl2).trans (hc 0 _ rfl)
          have x1 := (hbw.cell (p := ⟨b, off + k * 2 + 1, none⟩) hbl2).trans (hc 1 _ rfl)
          simp only [Nat.add_zero] at x0
          have HRI : Hid (∀ w', Below wr.heap.size wr w' → RI w' ai ts1[k].1) := fun w' h => hri.below (hbw.trans (h.mono hbw.size))
          have hq0 := (rsB_way HV.out.1 k hkb).1
          have HMD : Hid (∀ w2 u, Below wr.heap.size wr w2 → w2.ownsRow wr.heap.size 2 1 u ts1[k].1.length (ts1[k].1.map (Value.int .i64)) → HalfN w1.heap.size 2 2 cRun ts1 ((cur.setIfInBounds (k * 2) u).setIfInBounds (k * 2 + 1) (.int .i64 ts1[k].2)) ((w2.setCell ⟨w1.heap.size, k * 2, none⟩ u).setCell ⟨w1.heap.size, k * 2 + 1, none⟩ (.int .i64 ts1[k].2)) (k + 1)) :=
            fun w2 u hb1 ho => cRun_made HH.out hkb hgl hb1 HS.out hn1.out ho
          clear hri hc hbw
          generalize ts1[k] = t at x0 x1 HRI hq hq0 HMD
          obtain ⟨u1, u2⟩ := t
          dsimp only at x0 x1 HRI hq hq0 HMD
          generalize hql : u1.length = q at x0 hq hq0 HMD
          have HQ := Lib.hid hql
          clear hql
          have hkk0 : (0 : Int) ≤ (k : Int) := by omega
          have hkk1 : (k : Int) < (n1 : Int) := by omega
          have HBEL := Lib.hid hbel
          clear hbel
          have y0 : (wr.alloc (.cells #[.slice ai q ci, .int .i64 u2] 34)).cell? ⟨wr.heap.size, 0, none⟩ = some (.slice ai q ci) := by simp [go_sem]
          have y1 : (wr.alloc (.cells #[.slice ai q ci, .int .i64 u2] 34)).cell? ⟨wr.heap.size, 1, none⟩ = some (.int .i64 u2) := by simp [go_sem]
          have HY := Lib.hid (And.intro y0 y1)
          have hbx : wr.heap.size < (wr.alloc (.cells #[.slice ai q ci, .int .i64 u2] 34)).heap.size := by simp
          have HGX : Hid ((wr.alloc (.cells #[.slice ai q ci, .int .i64 u2] 34)).heap[w1.heap.size]? = some (.cells cur 34 (0, 0))) := (Below.heap_alloc _ _ _ hgl).trans HG.out
          have hgx : w1.heap.size < (wr.alloc (.cells #[.slice ai q ci, .int .i64 u2] 34)).heap.size := by simp; omega
          have HNE : Hid (wr.heap.size ≠ w1.heap.size) := by unfold Hid; omega
          clear y0 y1
          go_wp2
          go_region_held3 (fun w' => w'.cell? ⟨wr.heap.size, 0, none⟩ = some (.slice ai q ci) ∧ w'.cell? ⟨wr.heap.size, 1, none⟩ = some (.int .i64 u2))
            (first | exact HY.out | exact ⟨(hb1.cell (p := ⟨_, _, none⟩) hbx).trans HY.out.1, (hb1.cell (p := ⟨_, _, none⟩) hbx).trans HY.out.2⟩ | exact ⟨(World.cell?_of_block (a := ⟨_, _, none⟩) (by rw [heap_setCell_other _ _ _ _ HNE.out, heap_setCell_other _ _ _ _ HNE.out])).trans ((hb1.cell (p := ⟨_, _, none⟩) hbx).trans HY.out.1), (World.cell?_of_block (a := ⟨_, _, none⟩) (by rw [heap_setCell_other _ _ _ _ HNE.out, heap_setCell_other _ _ _ _ HNE.out])).trans ((hb1.cell (p := ⟨_, _, none⟩) hbx).trans HY.out.2)⟩)
            (first | (go_at_call 67; refine (clone_any ai ci q u1 _ HQ hq0 hq (HRI.out _ (((Below.refl _ _).alloc (Nat.le_refl _) _).drew))).mono ?_; rintro e w2 ⟨g, cg, rfl, hb1, ho1⟩; have HG2 := Lib.hid ((hb1.block _ hgx).trans HGX.out); obtain ⟨⟨v0, o0⟩, ⟨v1, o1⟩, z0, z1⟩ := cRun_cells HG2.out k (by rw [HS.out]; omega)))
          all_goals
            have hb2 : Below wr.heap.size wr w2 := Below.trans (Below.refl _ _ |>.alloc (Nat.le_refl _) _ |>.drew) (hb1.mono (by simp))
            have HM2 := Lib.hid (HMD.out w2 _ hb2 (own_lo ho1 (by simp)))
            have HB2 := Lib.hid (HBEL.out.trans (hb2.mono HBEL.out.size))
            have HG3 := Lib.hid (heap_setCell_same _ _ (k * 2 + 1) _ _ (.int .i64 u2) (heap_setCell_same _ _ (k * 2) _ _ (.slice (some ⟨g, 0, none⟩) q cg) HG2.out))
            clear hb1 ho1 hb2 x0 x1 o0 o1 z0 z1
            go_wp2
            go_roundw
            case rel => exact ⟨k + 1, _, by omega, by go_num, (HB2.out.setCell (Nat.le_refl _) _).setCell (Nat.le_refl _) _, HG3.out, by unfold Hid; simp; exact HS.out, HM2.out⟩
            case measure => simp [intOf]; omega
        · have hkn : k = n1 := by omega
          subst hkn
          have HO : OwRun w1.heap.size wr.heap.size (.slice (some ⟨w1.heap.size, 0, none⟩) k k) ts1 wr := HalfN.full (by omega) cRun_len HH.out hn1.out HG.out HS.out (by unfold maxLen; omega)
          obtain ⟨ho2, y1, z1⟩ := HST.out wr w1.heap.size HO
          have HO2 := Lib.hid ho2
          clear HO ho2
          go_wp2
          go_ret2
          exact givesDelay_of (v := .slice (some ⟨w1.heap.size, 0, none⟩) k k) HR.out ((HBX.out.trans (hbel.mono hw1)).setCell hw1 _) (HO2.out.widen hw1 (by simp [World.setCell]))
  · have HR : Hid (delayOf l0 ts1 f2 f3 = ([], c2)) := by
      have h := HCODE.out
      by_cases hv : rsB l0 ts1 = true
      · rw [if_pos hv] at h
        by_cases h1 : inB f2 0 ((n1 : Int) - 1) = true ∧ inB f3 0 100000 = true
        · rw [if_pos h1] at h; exact absurd h e3
        · rw [if_neg h1] at h; rw [h]; exact delay_range hv (by rw [hn1.out]; exact h1)
      · rw [if_neg hv] at h; rw [h]; exact delay_bad _ _ (by simpa using hv)
    clear e3
    go_enter Try.func40, Try.ntmps40
    go_wp2_with (first | (go_at_call 46; refine CK.mono ?_; rintro e w1 ⟨rfl, hbx⟩) | (go_at_call 66; refine (checkRange_any _ _ _ _).mono ?_; rintro e w' ⟨rfl, rfl⟩; (try rw [HC2.out])))
    go_ret2
    exact givesDelay_nil HR.out hbx
end Go.Proofs.Ytgjbahnloladfaa
