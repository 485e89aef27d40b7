/-
  MostAddresses: the model's walk.
-/
import Derived.Test.YtpkkibnpjhlfmaaDoorMostSym
namespace Go.Proofs.YtpkkibnpjhlfmaaDoor
open Go.RowKit

theorem om_first_bas {g r : Nat} {d : Int} (h2 : 2 ≤ g) (h4 : g ≤ 4) (hd : 1 ≤ d) {t0 : ByteArray} (h0 : 0 < (bas (allW g r)).length) (ht : (bas (allW g r))[0] = t0) : om (fitB d) (bas (allW g r)) = 1 + om (fitB d) (((bas (allW g r)).drop 1).filter (fitB d t0)) := by
  obtain ⟨l, hl⟩ := allW_head (by omega : 1 ≤ g) r
  have h5 := om_first (g := g) (r := r) h2 h4 hd
  have e0 : t0 = ⟨(List.replicate r 97).toArray⟩ := by
    rw [← ht]
    simp only [hl, bas, List.map_cons, List.getElem_cons_zero]
  rw [hl] at h5 ⊢
  rw [List.drop_succ_cons, List.drop_zero] at h5
  have e1 : (bas (List.replicate r 97 :: l)).drop 1 = bas l := rfl
  have e2 : (bas l).filter (fitB d t0) = bas (l.filter (fitL d (List.replicate r 97))) := by
    rw [e0]
    unfold bas
    rw [List.filter_map]
    rfl
  rw [e1, e2, om_bas, om_bas, h5]

set_option maxRecDepth 100000 in
set_option maxHeartbeats 8000000 in
theorem specMost_any (g r d : Int) (w : World) :
    Calls Tryd.prog 30 #[.int .i64 g, .int .i64 r, .int .i64 d] w fun e w' => e = .returned (.tuple #[.int .i64 (mostAns g r d).1, .int .i64 (mostAns g r d).2]) ∧ Below w.heap.size w w' := by
  have HI : Hid (∃ i0 : TypeInfo, Tryd.prog.info? 9 = some i0 ∧ i0.zero = some (.string ByteArray.empty) ∧ i0.size = 1 ∧ i0.bytes = 16) := info_parts info9
  have HCD := fun W => l05Code_any g r d W
  by_cases hc : codeW g r d 300 = 0
  · obtain ⟨c1, c2, c3, c4, c5, c6, c7⟩ := codeW_zero hc
    rw [hc] at HCD
    obtain ⟨gn, rfl⟩ : ∃ gn : Nat, g = gn := ⟨g.toNat, by omega⟩
    obtain ⟨rn, rfl⟩ : ∃ rn : Nat, r = rn := ⟨r.toNat, by omega⟩
    rw [Int.toNat_natCast, Int.toNat_natCast] at c7
    have HWD := fun W => l05All_any gn rn (by omega) (by omega) (by omega) (by omega) W
    have HEA : Hid (∀ s ∈ bas (allW gn rn), s.size = rn) := bas_eachC
    have HN : Hid ((bas (allW gn rn)).length = gn ^ rn) := by unfold Hid; rw [bas_length, allW_length (by omega)]
    have hN1 : 1 ≤ gn ^ rn := Nat.one_le_pow _ _ (by omega)
    have hrn : rn ≤ 8 := by omega
    have hg2 : 2 ≤ gn := by omega
    have hg4 : gn ≤ 4 := by omega
    by_cases h32 : 32 < gn ^ rn
    · have HR : Hid (mostAns (gn : Int) (rn : Int) d = (0, 5)) := by
        have e := codeW_full (g := gn) (r := rn) (d := d) (most := 32) ⟨c1, c2, c3, c4, c5, c6⟩ (by rw [Int.toNat_natCast, Int.toNat_natCast]; omega)
        unfold Hid
        rw [mostAns_no (by rw [e]; decide), e]
      generalize gn ^ rn = N at HWD h32 c7 hN1
      generalize bas (allW gn rn) = all at HWD
      have h32' : (32 : Int) < (N : Int) := by omega
      clear hc HEA HN c7
      go_enter Tryd.func30, Tryd.ntmps30
      go_wp2_with (first | (go_at_call 71; refine (HCD _).mono ?_; rintro e w1 ⟨rfl, rfl⟩) | (go_at_call 72; refine (HWD _).mono ?_; rintro e w4 ⟨ga, cga, rfl, hb4, ho4⟩))
      exact bodyPost_ret (v := .tuple #[.int .i64 0, .int .i64 5]) (by simp [results, Tryd.results30, go_sem]) rfl ⟨ret_pairI HR.out, hb4⟩
    · have HFS := fun (t0 : ByteArray) h0 ht => om_first_bas (g := gn) (r := rn) (d := d) hg2 hg4 c5 (t0 := t0) h0 ht
      have HR : mostAns (gn : Int) (rn : Int) d = (((om (fitB d) (bas (allW gn rn)) : Nat) : Int), 0) := by
        have e := codeW_ok (g := gn) (r := rn) (d := d) (most := 32) ⟨c1, c2, c3, c4, c5, c6⟩ (by rw [Int.toNat_natCast, Int.toNat_natCast]; omega)
        rw [mostAns_ok e, Int.toNat_natCast, Int.toNat_natCast]
      generalize bas (allW gn rn) = ts at HWD HEA HN HFS HR
      generalize gn ^ rn = n at HWD HN h32 c7 hN1
      have hn32 : n ≤ 32 := by omega
      have h32' : ¬ (32 : Int) < (n : Int) := by omega
      have h0l : 0 < ts.length := by rw [HN.out]; omega
      obtain ⟨t0, ht0⟩ : ∃ t0, ts[0] = t0 := ⟨_, rfl⟩
      have ht0s : t0.size = rn := by rw [← ht0]; exact HEA.out _ (List.getElem_mem _)
      have hts := HFS t0 h0l ht0
      have HT0 := Lib.hid ht0
      have H0L := Lib.hid h0l
      obtain ⟨R, hRd⟩ : ∃ R : Nat → List ByteArray, ∀ i, R i = fitR d t0 ((ts.take i).drop 1) := ⟨_, fun _ => rfl⟩
      have hR1 : R 1 = [] := by
        rw [hRd]
        have : (ts.take 1).drop 1 = [] := List.drop_eq_nil_of_le (by rw [List.length_take]; omega)
        rw [this]; rfl
      have hRn : R n = fitR d t0 (ts.drop 1) := by rw [hRd, List.take_of_length_le (by rw [HN.out]; omega)]
      have hRs : ∀ i (h : i < ts.length), 1 ≤ i → R (i + 1) = if fitB d t0 ts[i] = true then R i ++ [ts[i]] else R i := fun i h h1 => by
        rw [hRd, hRd]
        unfold fitR
        rw [List.take_add_one, List.getElem?_eq_getElem h, List.drop_append_of_le_length (by rw [List.length_take]; omega), List.filter_append]
        by_cases hf : fitB d t0 ts[i] = true
        · rw [if_pos hf]; simp [hf]
        · rw [if_neg hf]; simp [hf]
      have hRl : ∀ i, 1 ≤ i → (R i).length ≤ i - 1 := fun i h1 => by
        rw [hRd]
        have h2 := List.length_filter_le (fitB d t0) ((ts.take i).drop 1)
        unfold fitR
        rw [List.length_drop, List.length_take] at h2
        omega
      have hRe : ∀ i, ∀ u ∈ R i, u.size = rn := fun i u hu => by
        rw [hRd] at hu
        exact HEA.out u (List.mem_of_mem_take (List.mem_of_mem_drop (List.mem_filter.1 hu).1))
      have HMX : Hid (mostAns (gn : Int) (rn : Int) d = (((max 0 (1 + om (fitB d) (R n)) : Nat) : Int), 0)) := by
        unfold Hid
        rw [HR, hts, hRn]
        unfold fitR
        rw [Nat.zero_max]
      have HRS := Lib.hid hRs
      have HR1 := Lib.hid hR1
      have HRL := Lib.hid hRl
      have HRE := Lib.hid hRe
      clear hc hRd hR1 hRn hRs hRl hRe hts ht0 HFS HR c7
      go_enter Tryd.func30, Tryd.ntmps30
      go_wp2_with (first | (go_at_call 71; refine (HCD _).mono ?_; rintro e w1 ⟨rfl, rfl⟩) | (go_at_call 72; refine (HWD _).mono ?_; rintro e w2 ⟨ga, cga, rfl, hb2, ho2⟩))
      have HO2 := Lib.hid ho2
      have hgl := (ho2.lt ga rfl).2
      have HB2 := Lib.hid hb2
      clear ho2 hb2 HWD
      go_loopw [10, 11] (fun q iv wr => ∃ (i mo bo co : Nat), 1 ≤ i ∧ i ≤ n ∧ iv = .int .i64 (i : Int) ∧ q = .slice (some ⟨bo, 0, none⟩) mo co ∧ Hid ((R i).length = mo) ∧ Hid (Below w2.heap.size w2 wr) ∧ Hid (wr.ownsRow w2.heap.size 9 1 (.slice (some ⟨bo, 0, none⟩) mo co) mo ((R i).map Value.string))) (fun _ iv _ => n - (intOf iv).toNat)
      case atStart => exact ⟨1, 0, _, _, by omega, by omega, rfl, rfl, by unfold Hid; rw [HR1.out]; rfl, (by repeat (first | exact Below.refl _ _ | refine Below.alloc ?_ (by simp; try omega) _ | refine Below.setCell ?_ (by simp; try omega) _)), by unfold Hid; rw [HR1.out]; simpa using World.ownsRow_made w2 #[] 0 (Nat.le_refl _) (by unfold maxLen; omega) rfl⟩
      case round =>
        obtain ⟨i, mo, bo, co, hi1, hi, rfl, rfl, HMO, HBW, HO⟩ := hrel
        have hm31 := HRL.out i hi1
        rw [HMO.out] at hm31
        have x0' := (HBW.out.cell (p := ⟨ga, 0, none⟩) hgl).trans (row_cellD HO2.out 0 H0L.out)
        rw [HT0.out] at x0'
        by_cases hlt : i < n
        · have hil : i < ts.length := by rw [HN.out]; exact hlt
          have x1 := (HBW.out.cell (p := ⟨ga, i, none⟩) hgl).trans (row_cellD HO2.out i hil)
          have hsz := HEA.out _ (List.getElem_mem hil)
          have HST := Lib.hid (HRS.out i hil hi1)
          generalize ts[i] = u at x1 hsz HST
          have hF := fun W => l05Far_any t0 u (by omega) (by omega) W
          have hk0 : (0 : Int) ≤ (i : Int) := by omega
          have hk1 : (i : Int) < (n : Int) := by omega
          have hn0 : (0 : Int) < (n : Int) := by omega
          have hn0' : 0 < n := by omega
          by_cases hf : d ≤ ((farL (bl t0) (bl u) : Nat) : Int)
          · have HE2 : Hid (R (i + 1) = R i ++ [u]) := by
              have := HST.out
              rw [if_pos (by unfold fitB; exact decide_eq_true hf)] at this
              exact this
            generalize farL (bl t0) (bl u) = fl at hF hf
            have hfd : decide (d ≤ (fl : Int)) = true := by simp [hf]
            clear HST
            go_wp2_with fail
            go_quiet (first | (go_at_call 51; refine Calls.mono (hF _) ?_; rintro e w1 ⟨rfl, q, rfl⟩; exact ⟨rfl, _, World.drewN_drewN _ _ _⟩))
            have BQ : Hid (Below w2.heap.size w2 (wr.drewN nq)) := Below.drewN' HBW.out nq
            have OQ : Hid ((wr.drewN nq).ownsRow w2.heap.size 9 1 (.slice (some ⟨bo, 0, none⟩) mo co) mo ((R i).map Value.string)) := HO.out
            have x1q : (wr.drewN nq).cell? ⟨ga, i, none⟩ = some (.string u) := x1
            generalize wr.drewN nq = wq at BQ OQ x1q
            generalize hxo : (R i).map Value.string = xo at OQ
            have HXO := Lib.hid hxo
            clear hxo
            have HGO : Hid (∀ q, (Value.slice (some ⟨bo, 0, none⟩) mo co).ownBlock = some q → w2.heap.size ≤ q) := fun q hq => (OQ.out.lt q hq).1
            have hzq := BQ.out.size
            go_wp2_with (first | (at_builtin; refine wpList_append_lies _ rfl _ _ 24 rfl w2.heap.size 9 HI.out.choose (.string ByteArray.empty) 1 16 Tryd.underlying24 HI.out.choose_spec.1 HI.out.choose_spec.2.1 HI.out.choose_spec.2.2.1 HI.out.choose_spec.2.2.2 rfl (by decide) (.slice (some ⟨bo, 0, none⟩) mo co) mo xo rfl (OQ.out.alloc _) ⟨wq.heap.size, 0, none⟩ 1 1 [.string u] rfl rfl ?_ (by intro u hu; simp at hu; subst hu; rfl) (by omega) (by unfold maxLen; omega) (by omega) (by simp; omega) _ rfl ?_; (next => (intro j u hj; match j, hj with | 0, hj => (simp at hj; subst hj; simp [Addr.add, go_sem])))))
            intro g10 cap10 w10 hown10 hgrow10 _ _
            have B10 : Hid (Below w2.heap.size w2 w10) := (BQ.out.alloc hzq _).grown hgrow10 (by simp; omega) HGO.out
            have O10 : Hid (w10.ownsRow w2.heap.size 9 1 (.slice (some ⟨g10, 0, none⟩) (mo + 1) cap10) (mo + 1) ((R (i + 1)).map Value.string)) := by
              unfold Hid; rw [HE2.out, List.map_append, HXO.out]; exact hown10
            have M10 : Hid ((R (i + 1)).length = mo + 1) := by unfold Hid; rw [HE2.out, List.length_append, HMO.out]; rfl
            clear hown10 hgrow10
            go_wp2
            go_roundw
            case rel => exact ⟨i + 1, mo + 1, g10, cap10, by omega, by omega, by go_num, rfl, M10.out, B10.out, O10.out⟩
            case measure => simp [intOf]; omega
          · have HE2 : Hid (R (i + 1) = R i) := by
              have := HST.out
              rw [if_neg (by unfold fitB; simp; omega)] at this
              exact this
            generalize farL (bl t0) (bl u) = fl at hF hf
            have hfd : decide (d ≤ (fl : Int)) = false := by simp; omega
            clear HST
            go_wp2_with fail
            go_quiet (first | (go_at_call 51; refine Calls.mono (hF _) ?_; rintro e w1 ⟨rfl, q, rfl⟩; exact ⟨rfl, _, World.drewN_drewN _ _ _⟩))
            go_wp2
            go_roundw
            case rel => exact ⟨i + 1, mo, bo, co, by omega, by omega, by go_num, rfl, by unfold Hid; rw [HE2.out]; exact HMO.out, Below.drewN' HBW.out _, by unfold Hid; rw [HE2.out]; exact HO.out⟩
            case measure => simp [intOf]; omega
        · have hin : i = n := by omega
          subst hin
          have hgo := HO.out.lt bo rfl
          have hcap2 : mo ≤ co ∧ co ≤ 9223372036854775807 := by
            rcases HO.out.2 with ⟨hv, _⟩ | ⟨g', cap', cur, hv, _, _, h1, h2, _⟩
            · simp at hv
            · simp at hv
              unfold maxLen at h2
              omega
          have hom1 := om_len (fitB d) (R i)
          rw [HMO.out] at hom1
          have HWK := walkS_any d rn hrn wr wr.heap.size (Nat.le_refl _) mo (R i) HMO.out (by omega) (HRE.out i) 1 0 bo 0 co (wr.alloc (.cells #[.int .i64 d, .int .i64 0] 96)) (by omega) (by omega) hcap2.1 hcap2.2 (by omega) (by simp; omega) (heap_alloc_new wr _) ((Below.refl _ _).alloc (Nat.le_refl _) _) (fun j hj => by rw [Nat.zero_add]; exact row_cellD (HO.out.alloc _) j hj)
          have HBF := Lib.hid (two_worlds' HB2.out HBW.out)
          have hzr := HBF.out.size
          generalize hmm : max 0 (1 + om (fitB d) (R i)) = mf at HWK HMX
          clear hmm hom1
          go_wp2_with fail
          refine HWK.mono ?_
          rintro e w3 ⟨rfl, hs3, hg3⟩
          have q1 := cell_of_row w3 wr.heap.size 1 _ _ _ hs3
          simp only [List.getElem?_toArray, List.getElem?_cons_zero, List.getElem?_cons_succ] at q1
          have HB5 := Lib.hid (below_gb (Below.trans HBF.out ((Below.refl _ _).alloc hzr _)) hg3 hzr)
          clear hs3 hg3
          go_wp2
          exact bodyPost_ret (v := .tuple #[.int .i64 ((mf : Nat) : Int), .int .i64 0]) (by simp [results, Tryd.results30, go_sem]) rfl ⟨ret_pairI HMX.out, HB5.out⟩
  · have HR : Hid (mostAns g r d = (0, codeW g r d 300)) := by
      have e : codeW g r d 32 = codeW g r d 300 := by
        unfold codeW at hc ⊢
        split
        · rename_i h6
          rw [if_pos h6] at hc
          split at hc
          · rename_i h7
            rw [if_pos h7, if_pos (by omega)]
          · exact absurd rfl hc
        · rfl
      unfold Hid
      rw [mostAns_no (by rw [e]; exact hc), e]
    rcases eq_ways (codeW g r d 300) 0 with ⟨⟨e1, e2⟩, e3⟩ | ⟨⟨e1, e2⟩, e3⟩
    · exact absurd e3 hc
    · generalize codeW g r d 300 = cd at *
      clear hc e3
      go_enter Tryd.func30, Tryd.ntmps30
      go_wp2_with (first | (go_at_call 71; refine (HCD _).mono ?_; rintro e w1 ⟨rfl, rfl⟩))
      exact bodyPost_ret (v := .tuple #[.int .i64 0, .int .i64 cd]) (by simp [results, Tryd.results30, go_sem]) rfl ⟨ret_pairI HR.out, Below.refl _ _⟩
end Go.Proofs.YtpkkibnpjhlfmaaDoor
