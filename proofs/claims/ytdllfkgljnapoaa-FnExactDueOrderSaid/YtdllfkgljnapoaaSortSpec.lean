/-
  The model's order by ascending numbers.
-/
import Derived.Test.YtdllfkgljnapoaaOrderBy
namespace Go.Proofs.Ytdllfkgljnapoaa
open Go.RowKit

theorem infoI64p : (Try.prog.info? 2).map (fun i => (i.zero, i.size, i.bytes)) = some (some (.int .i64 0), 1, 8) := by kernel_rfl
theorem ints_one (l : List Int) : ∀ u ∈ l.map (Value.int .i64), u.oneCell' = true := by
  intro u hu
  obtain ⟨x, _, rfl⟩ := List.mem_map.1 hu
  rfl
set_option maxHeartbeats 1000000 in
/-- A copy of a part, which may be empty. -/
theorem ownS_any (bb ob ca m : Nat) (l : List Int) (w : World) (hm : Hid (l.length = m)) (hm1 : m ≤ 1048576) (hbb : bb < w.heap.size) (hc : ∀ i (h : i < l.length), w.cell? ⟨bb, ob + i, none⟩ = some (.int .i64 l[i])) :
    Calls Try.prog 37 #[.slice (some ⟨bb, ob, none⟩) m ca] w (GivesO 2 l m w) := by
  have HN : Hid (∀ w', Below w.heap.size w w' → ∀ j u, (l.map (Value.int .i64))[j]? = some u → w'.cell? ((⟨bb, ob, none⟩ : Addr).add j) = some u) := fun w' hb => news_ints (fun i hi => (hb.cell (p := ⟨bb, ob + i, none⟩) hbb).trans (hc i hi))
  have HL : Hid ((l.map (Value.int .i64)).length = m * 1) := by unfold Hid; rw [List.length_map, hm.out]; omega
  have HF := Lib.hid (ints_one l)
  have HI : Hid (∃ i0 : TypeInfo, Try.prog.info? 2 = some i0 ∧ i0.zero = some (.int .i64 0) ∧ i0.size = 1 ∧ i0.bytes = 8) := info_parts infoI64p
  clear hc hbb
  go_enter Try.func37, Try.ntmps37
  go_wp2_with (at_builtin; refine wpList_append_clone _ rfl _ _ 22 rfl w.heap.size 2 HI.out.choose (.int .i64 0) 1 8 Try.underlying22 HI.out.choose_spec.1 HI.out.choose_spec.2.1 HI.out.choose_spec.2.2.1 HI.out.choose_spec.2.2.2 rfl (by decide) w.heap.size rfl (World.ownsRow_made w #[] 0 (Nat.le_refl _) (by unfold maxLen; omega) rfl) ⟨bb, ob, none⟩ m ca _ rfl HL.out (HN.out _ ((Below.refl _ _).alloc (Nat.le_refl _) _)) HF.out (by unfold maxLen; omega) (by omega) (by simp) ?_)
  intro g cap w1 hown1 hgrow hat
  have HB : Hid (Below w.heap.size w w1) := ((Below.refl _ _).alloc (Nat.le_refl _) _).grown hgrow (by simp) (fun k hk => by simp at hk; omega)
  have HO := Lib.hid hown1
  clear hown1 hgrow hat
  go_wp2
  go_ret
  exact ⟨g, cap, rfl, HB.out, HO.out⟩

set_option maxHeartbeats 8000000 in
theorem sorted_any (ao : Option Addr) (ks : List Int) (n ca : Nat) (w : World) (hn : Hid (ks.length = n)) (hn6 : n ≤ 6) (ha : RI w ao ks) :
    Calls Try.prog 27 #[.slice ao n ca] w (GivesO 2 (srt (keyOf ks) n) n w) := by
  have HA : Hid (∀ w', Below w.heap.size w w' → RI w' ao ks) := fun w' h => ha.below h
  have HI : Hid (∃ i0 : TypeInfo, Try.prog.info? 2 = some i0 ∧ i0.zero = some (.int .i64 0) ∧ i0.size = 1 ∧ i0.bytes = 8) := info_parts infoI64p
  clear ha
  go_enter Try.func27, Try.ntmps27
  go_wp2
  go_loopw [3, 4] (fun vo iv wr => ∃ (i cap g : Nat), i ≤ n ∧ vo = .slice (some ⟨g, 0, none⟩) i cap ∧ iv = .int .i64 (i : Int) ∧ Hid (Below w.heap.size w wr) ∧ Hid (wr.ownsRow w.heap.size 2 1 (.slice (some ⟨g, 0, none⟩) i cap) i ((srt (keyOf ks) i).map (Value.int .i64)))) (fun _ iv _ => n - (intOf iv).toNat)
  case atStart => exact ⟨0, 0, w.heap.size, by omega, rfl, rfl, (by repeat (first | exact Below.refl _ _ | refine Below.alloc ?_ (by simp; try omega) _ | refine Below.setCell ?_ (by simp; try omega) _)), World.ownsRow_made w #[] 0 (Nat.le_refl _) (by unfold maxLen; omega) rfl⟩
  case round =>
    obtain ⟨i, cap, g, hi, rfl, rfl, HB, HO⟩ := hrel
    obtain ⟨wo, hwo⟩ : ∃ wo, wo = wr := ⟨wr, rfl⟩
    subst hwo
    by_cases hlt : i < n
    · have hia : i < ks.length := by rw [hn.out]; exact hlt
      have hi0 : (0 : Int) ≤ (i : Int) := by omega
      have hi1 : (i : Int) < (n : Int) := by omega
      obtain ⟨L, hL⟩ : ∃ L, srt (keyOf ks) i = L := ⟨_, rfl⟩
      have HL := Lib.hid hL
      have hLl : L.length = i := by rw [← hL]; exact srt_len _ _
      have HLL := Lib.hid hLl
      obtain ⟨b, off, rfl, hbl, hca⟩ := (HA.out w (Below.refl _ _)).some_ (by omega)
      have HCA : Hid (∀ w', Below w.heap.size w w' → ∀ q (h : q < ks.length), w'.cell? ⟨b, off + q, none⟩ = some (.int .i64 ks[q])) := fun w' h q hq => (h.cell (p := ⟨b, off + q, none⟩) hbl).trans (hca q hq)
      clear hca hbl
      rw [hL] at HO
      have hgl := own_lt HO.out
      have hge := own_ge HO.out
      have hcap : i ≤ cap ∧ cap ≤ maxLen := by
        rcases HO.out.2 with ⟨hv, _⟩ | ⟨g', cap', cur, hv, _, _, h1, h2, _⟩
        · injection hv with h1; exact absurd h1 (by simp)
        · injection hv with _ _ h3; subst h3; exact ⟨h1, h2⟩
      unfold maxLen at hcap
      have e0 : keyOf ks (i : Int) = ks[i] := keyOf_nat ks i hia
      have E0 := Lib.hid e0
      clear hL e0 hLl
      go_wp2
      go_loopw [5] (fun kv wr => ∃ k q : Nat, k ≤ i ∧ kv = .int .i64 (k : Int) ∧ wr = wo.drewN q ∧ Hid (pos (keyOf ks) L (i : Int) i = pos (keyOf ks) L (i : Int) k)) (fun kv _ => (intOf kv).toNat)
      case atStart => exact ⟨i, 0, Nat.le_refl _, rfl, rfl, rfl⟩
      case round =>
        obtain ⟨k, q, hk, rfl, rfl, HP⟩ := hrel
        -- CASES
        have hBq : Below w.heap.size w (wo.drewN q) := Below.drewN' HB.out q
        have hBd : Below wo.heap.size wo (wo.drewN q) := Below.drewN' (Below.refl _ _) q
        have hws : w.heap.size ≤ wo.heap.size := HB.out.size
        have HTL : Hid ((L.take k).length = k) := by unfold Hid; rw [List.length_take, HLL.out]; omega
        have HCL : Hid (∀ w', Below wo.heap.size wo w' → ∀ j (h : j < L.length), w'.cell? ⟨g, j, none⟩ = some (.int .i64 L[j])) := fun w' hb j hj => (hb.cell (p := ⟨g, j, none⟩) hgl).trans (ownsRow_cell HO.out j _ (by rw [List.getElem?_map, List.getElem?_eq_getElem hj]; rfl))
        have OWN : ∀ W, Below wo.heap.size wo W → ∀ cc, Calls Try.prog 37 #[.slice (some ⟨g, 0, none⟩) k cc] W (GivesO 2 (L.take k) k W) := fun W hW cc => ownS_any g 0 cc k (L.take k) W HTL (by omega) (by have := hW.size; omega) (fun j hj => by
          rw [Nat.zero_add, List.getElem_take]
          exact HCL.out W hW j (by rw [List.length_take] at hj; omega))
        have HFIN : Hid (pos (keyOf ks) L (i : Int) k = k → srt (keyOf ks) (i + 1) = L.take k ++ [(i : Int)] ++ L.drop k) := by
          intro h
          rw [srt_succ (p := k) (by rw [HL.out]; exact HP.out.trans h), HL.out]
          simp
        have hk0 : (0 : Int) ≤ (k : Int) := by omega
        have hkc : (k : Int) ≤ (cap : Int) := by omega
        have hki : (k : Int) ≤ (i : Int) := by omega
        rcases Nat.eq_zero_or_pos k with hz | hpos
        · have HSR := Lib.hid (HFIN.out (by subst hz; rfl))
          have d1 : decide (0 < k) = false := decide_eq_false (by omega)
          have d2 : decide ((0 : Int) < (k : Int)) = false := decide_eq_false (by omega)
          have d3 : decide ((k : Int) > 0) = false := decide_eq_false (by omega)
          clear HFIN HP
          go_wp2_with fail
          go_quiet (fail)
          clear d1 d2 d3 hz
          go_wp2_with (first | (go_at_call 37; refine (OWN _ (by first | exact Below.drewN' (Below.refl _ wo) _ | exact hBd) _).mono ?_; rintro e w1 ⟨g1, c1, rfl, hb1, ho1⟩) | (at_builtin; refine wpList_append_lies _ rfl _ _ 22 rfl w.heap.size 2 HI.out.choose (.int .i64 0) 1 8 Try.underlying22 HI.out.choose_spec.1 HI.out.choose_spec.2.1 HI.out.choose_spec.2.2.1 HI.out.choose_spec.2.2.2 rfl (by decide) (.slice (some ⟨g1, 0, none⟩) k c1) k _ rfl ((own_lo ho1 hws).alloc _) ⟨w1.heap.size, 0, none⟩ 1 1 [.int .i64 (i : Int)] rfl rfl (World.news_of_block (heap_alloc_new w1 _)) (by intro u hu; simp at hu; subst hu; rfl) (by omega) (by unfold maxLen; omega) (by omega) (by have h9 : wo.heap.size ≤ w1.heap.size := hb1.size; simp; omega) _ rfl ?_))
          intro g2 c2 w2 ho2 hgr2 hat2 hlt2
          have hg1 : wo.heap.size ≤ g1 := own_ge ho1
          have hs1 : wo.heap.size ≤ w1.heap.size := hb1.size
          have hbw1 : Below wo.heap.size wo w1 := (Below.drewN' (Below.refl _ wo) _).trans hb1
          have B2 : Hid (Below wo.heap.size wo w2) := (hbw1.alloc hs1 _).grown hgr2 (by simp; omega) (fun p hp => by simp [Value.ownBlock] at hp; omega)
          have hg2 : wo.heap.size ≤ g2 := by
            rcases hat2 with h | h
            · simp [Value.ownBlock] at h; omega
            · rw [h]; omega
          have O2 : Hid (w2.ownsRow w.heap.size 2 1 (.slice (some ⟨g2, 0, none⟩) (k + 1) c2) (k + 1) ((L.take k ++ [(i : Int)]).map (Value.int .i64))) := by
            unfold Hid; rw [List.map_append, List.map_take]
            exact ho2
          clear ho2 hgr2 hat2 hlt2 ho1 hb1 hbw1 hs1 hg1 OWN
          have hs2 : w.heap.size ≤ w2.heap.size := by have := B2.out.size; omega
          have hc2 : k + 1 ≤ c2 := by
            rcases O2.out.2 with ⟨hv, _⟩ | ⟨g', cap', cur, hv, _, _, h1, h2, _⟩
            · injection hv with h1; exact absurd h1 (by simp)
            · injection hv with _ _ h3; subst h3; exact h1
          rcases Nat.lt_or_eq_of_le hk with hki2 | hki2
          · have f1 : (0 : Int) < (i : Int) - (k : Int) := by omega
            have f2 : (k : Int) < (cap : Int) := by omega
            have NEWS : Hid (∀ j u, ((L.drop k).map (Value.int .i64))[j]? = some u → w2.cell? ((⟨g, k, none⟩ : Addr).add j) = some u) := news_ints (fun j hj => by
              rw [List.getElem_drop]
              exact HCL.out w2 B2.out (k + j) (by rw [List.length_drop] at hj; omega))
            go_wp2_with (at_builtin; refine wpList_append_lies _ rfl _ _ 22 rfl w.heap.size 2 HI.out.choose (.int .i64 0) 1 8 Try.underlying22 HI.out.choose_spec.1 HI.out.choose_spec.2.1 HI.out.choose_spec.2.2.1 HI.out.choose_spec.2.2.2 rfl (by decide) (.slice (some ⟨g2, 0, none⟩) (k + 1) c2) (k + 1) _ rfl O2.out ⟨g, k, none⟩ (i - k) (cap - k) ((L.drop k).map (Value.int .i64)) rfl (by rw [List.length_map, List.length_drop, HLL.out]; omega) NEWS.out (ints_one _) (by omega) (by unfold maxLen; omega) (by omega) (by omega) _ rfl ?_)
            intro g3 c3 w3 ho3 hgr3 hat3 hlt3
            have e9 : k + 1 + (i - k) = i + 1 := by omega
            rw [e9] at ho3
            rw [e9]
            have B3 : Hid (Below w.heap.size w w3) := two_worlds HB.out (B2.out.grown hgr3 (by have := B2.out.size; omega) (fun p hp => by simp [Value.ownBlock] at hp; omega))
            have O3 : Hid (w3.ownsRow w.heap.size 2 1 (.slice (some ⟨g3, 0, none⟩) (i + 1) c3) (i + 1) ((srt (keyOf ks) (i + 1)).map (Value.int .i64))) := by
              unfold Hid; rw [HSR.out]
              simpa using ho3
            clear ho3 hgr3 hat3 hlt3 NEWS B2 O2 e9
            go_wp2
            go_roundw
            case rel => exact ⟨i + 1, c3, g3, by omega, rfl, by go_num, B3.out, O3.out⟩
            case measure => simp [intOf]; omega
          · subst hki2
            have hdr : L.drop k = [] := List.drop_of_length_le (by rw [HLL.out]; exact Nat.le_refl _)
            rw [hdr, List.append_nil] at HSR
            by_cases hcc : cap = k
            · subst hcc
              go_wp2_with (at_builtin; refine wpList_append_fits_any _ rfl _ _ 22 rfl w.heap.size 2 HI.out.choose 1 Try.underlying22 HI.out.choose_spec.1 HI.out.choose_spec.2.2.1 g2 (cap + 1) c2 _ rfl O2.out (some ⟨g, 0, none⟩) 0 0 [] (by first | rfl | (simp; done)) (by simp) (fun h => by cases h) (fun _ _ j u hj => by simp at hj) (fun u hu => by simp at hu) (by omega) ?_)
              intro w3 ho3 hgr3
              have B3 : Hid (Below w.heap.size w w3) := two_worlds HB.out (B2.out.grown hgr3 (by have := B2.out.size; omega) (fun p hp => by injection hp with hp; omega))
              have O3 : Hid (w3.ownsRow w.heap.size 2 1 (.slice (some ⟨g2, 0, none⟩) (cap + 1) c2) (cap + 1) ((srt (keyOf ks) (cap + 1)).map (Value.int .i64))) := by
                unfold Hid; rw [HSR.out]
                simpa using ho3
              clear ho3 hgr3 B2 O2
              go_wp2
              go_roundw
              case rel => exact ⟨cap + 1, c2, g2, by omega, rfl, by go_num, B3.out, O3.out⟩
              case measure => simp [intOf]; omega
            · have f2 : (k : Int) < (cap : Int) := by omega
              go_wp2_with (at_builtin; refine wpList_append_fits_any _ rfl _ _ 22 rfl w.heap.size 2 HI.out.choose 1 Try.underlying22 HI.out.choose_spec.1 HI.out.choose_spec.2.2.1 g2 (k + 1) c2 _ rfl O2.out (some ⟨g, k, none⟩) 0 (cap - k) [] (by first | rfl | (simp; done)) (by simp) (fun h => by cases h) (fun _ _ j u hj => by simp at hj) (fun u hu => by simp at hu) (by omega) ?_)
              intro w3 ho3 hgr3
              have B3 : Hid (Below w.heap.size w w3) := two_worlds HB.out (B2.out.grown hgr3 (by have := B2.out.size; omega) (fun p hp => by injection hp with hp; omega))
              have O3 : Hid (w3.ownsRow w.heap.size 2 1 (.slice (some ⟨g2, 0, none⟩) (k + 1) c2) (k + 1) ((srt (keyOf ks) (k + 1)).map (Value.int .i64))) := by
                unfold Hid; rw [HSR.out]
                simpa using ho3
              clear ho3 hgr3 B2 O2
              go_wp2
              go_roundw
              case rel => exact ⟨k + 1, c2, g2, by omega, rfl, by go_num, B3.out, O3.out⟩
              case measure => simp [intOf]; omega
        · have hkl : k - 1 < L.length := by rw [HLL.out]; omega
          obtain ⟨m, hm, hmi⟩ : ∃ m : Nat, L[k - 1] = (m : Int) ∧ m < i := by
            have h := srt_at (keyOf ks) i (k - 1) (by rw [HL.out]; exact hkl)
            simpa only [HL.out] using h
          have hma : m < ks.length := by omega
          have hKm : keyOf ks L[k - 1] = ks[m] := by rw [hm]; exact keyOf_nat ks m hma
          have x1 := HCL.out _ (Below.refl _ _) (k - 1) hkl
          rw [hm] at x1
          have y1 := HCA.out _ HB.out m hma
          have y2 := HCA.out _ HB.out i hia
          have hstop : ¬ ks[i] < ks[m] → pos (keyOf ks) L (i : Int) k = k := fun h => by
            have := pos_stop (K := keyOf ks) (l := L) (x := (i : Int)) hkl (by rw [E0.out, hKm]; exact h)
            rwa [show k - 1 + 1 = k by omega] at this
          have hgo : ks[i] < ks[m] → pos (keyOf ks) L (i : Int) k = pos (keyOf ks) L (i : Int) (k - 1) := fun h => by
            have := pos_less (K := keyOf ks) (l := L) (x := (i : Int)) hkl (by rw [E0.out, hKm]; exact h)
            rwa [show k - 1 + 1 = k by omega] at this
          have d1 : decide (0 < k) = true := decide_eq_true (by omega)
          have d2 : decide ((0 : Int) < (k : Int)) = true := decide_eq_true (by omega)
          have d3 : decide ((k : Int) > 0) = true := decide_eq_true (by omega)
          have b1 : (0 : Int) ≤ (k : Int) - 1 := by omega
          have b2 : (k : Int) - 1 < (i : Int) := by omega
          have b3 : (m : Int) < (n : Int) := by omega
          have b4 : (0 : Int) ≤ (m : Int) := by omega
          have hg0 : (0 : Int) < (k : Int) := by omega
          have hq2 : 1 ≤ k := by omega
          have hq3 : (1 : Int) ≤ (k : Int) := by omega
          have hw1 : IntKind.i64.wrap ((k : Int) - 1) = (k : Int) - 1 := IntWalk.i64_in _ (by omega)
          generalize ks[m] = km at y1 hstop hgo hKm
          generalize ks[i] = ki at y2 hstop hgo E0
          cases hd : decide (ki < km) with
          | true =>
            have HGO : Hid (pos (keyOf ks) L (i : Int) i = pos (keyOf ks) L (i : Int) (k - 1)) := HP.out.trans (hgo (of_decide_eq_true hd))
            have hd2 : decide (km > ki) = true := hd
            clear hstop hgo HFIN HP hKm hm
            go_wp2_with fail
            go_quiet (fail)
            go_wp2
            go_roundw
            case rel => exact ⟨k - 1, _, by omega, by go_num, rfl, HGO.out⟩
            case measure => simp [intOf]; omega
          | false =>
            have HSR := Lib.hid (HFIN.out (hstop (of_decide_eq_false hd)))
            have hd2 : decide (km > ki) = false := hd
            clear hstop hgo HFIN HP hKm hm
            go_wp2_with fail
            go_quiet (fail)
            clear x1 y1 y2 hd hd2 d1 d2 d3 hw1
            go_wp2_with (first | (go_at_call 37; refine (OWN _ (by first | exact Below.drewN' (Below.refl _ wo) _ | exact hBd) _).mono ?_; rintro e w1 ⟨g1, c1, rfl, hb1, ho1⟩) | (at_builtin; refine wpList_append_lies _ rfl _ _ 22 rfl w.heap.size 2 HI.out.choose (.int .i64 0) 1 8 Try.underlying22 HI.out.choose_spec.1 HI.out.choose_spec.2.1 HI.out.choose_spec.2.2.1 HI.out.choose_spec.2.2.2 rfl (by decide) (.slice (some ⟨g1, 0, none⟩) k c1) k _ rfl ((own_lo ho1 hws).alloc _) ⟨w1.heap.size, 0, none⟩ 1 1 [.int .i64 (i : Int)] rfl rfl (World.news_of_block (heap_alloc_new w1 _)) (by intro u hu; simp at hu; subst hu; rfl) (by omega) (by unfold maxLen; omega) (by omega) (by have h9 : wo.heap.size ≤ w1.heap.size := hb1.size; simp; omega) _ rfl ?_))
            intro g2 c2 w2 ho2 hgr2 hat2 hlt2
            have hg1 : wo.heap.size ≤ g1 := own_ge ho1
            have hs1 : wo.heap.size ≤ w1.heap.size := hb1.size
            have hbw1 : Below wo.heap.size wo w1 := (Below.drewN' (Below.refl _ wo) _).trans hb1
            have B2 : Hid (Below wo.heap.size wo w2) := (hbw1.alloc hs1 _).grown hgr2 (by simp; omega) (fun p hp => by simp [Value.ownBlock] at hp; omega)
            have hg2 : wo.heap.size ≤ g2 := by
              rcases hat2 with h | h
              · simp [Value.ownBlock] at h; omega
              · rw [h]; omega
            have O2 : Hid (w2.ownsRow w.heap.size 2 1 (.slice (some ⟨g2, 0, none⟩) (k + 1) c2) (k + 1) ((L.take k ++ [(i : Int)]).map (Value.int .i64))) := by
              unfold Hid; rw [List.map_append, List.map_take]
              exact ho2
            clear ho2 hgr2 hat2 hlt2 ho1 hb1 hbw1 hs1 hg1 OWN
            have hs2 : w.heap.size ≤ w2.heap.size := by have := B2.out.size; omega
            have hc2 : k + 1 ≤ c2 := by
              rcases O2.out.2 with ⟨hv, _⟩ | ⟨g', cap', cur, hv, _, _, h1, h2, _⟩
              · injection hv with h1; exact absurd h1 (by simp)
              · injection hv with _ _ h3; subst h3; exact h1
            rcases Nat.lt_or_eq_of_le hk with hki2 | hki2
            · have f1 : (0 : Int) < (i : Int) - (k : Int) := by omega
              have f2 : (k : Int) < (cap : Int) := by omega
              have NEWS : Hid (∀ j u, ((L.drop k).map (Value.int .i64))[j]? = some u → w2.cell? ((⟨g, k, none⟩ : Addr).add j) = some u) := news_ints (fun j hj => by
                rw [List.getElem_drop]
                exact HCL.out w2 B2.out (k + j) (by rw [List.length_drop] at hj; omega))
              go_wp2_with (at_builtin; refine wpList_append_lies _ rfl _ _ 22 rfl w.heap.size 2 HI.out.choose (.int .i64 0) 1 8 Try.underlying22 HI.out.choose_spec.1 HI.out.choose_spec.2.1 HI.out.choose_spec.2.2.1 HI.out.choose_spec.2.2.2 rfl (by decide) (.slice (some ⟨g2, 0, none⟩) (k + 1) c2) (k + 1) _ rfl O2.out ⟨g, k, none⟩ (i - k) (cap - k) ((L.drop k).map (Value.int .i64)) rfl (by rw [List.length_map, List.length_drop, HLL.out]; omega) NEWS.out (ints_one _) (by omega) (by unfold maxLen; omega) (by omega) (by omega) _ rfl ?_)
              intro g3 c3 w3 ho3 hgr3 hat3 hlt3
              have e9 : k + 1 + (i - k) = i + 1 := by omega
              rw [e9] at ho3
              rw [e9]
              have B3 : Hid (Below w.heap.size w w3) := two_worlds HB.out (B2.out.grown hgr3 (by have := B2.out.size; omega) (fun p hp => by simp [Value.ownBlock] at hp; omega))
              have O3 : Hid (w3.ownsRow w.heap.size 2 1 (.slice (some ⟨g3, 0, none⟩) (i + 1) c3) (i + 1) ((srt (keyOf ks) (i + 1)).map (Value.int .i64))) := by
                unfold Hid; rw [HSR.out]
                simpa using ho3
              clear ho3 hgr3 hat3 hlt3 NEWS B2 O2 e9
              go_wp2
              go_roundw
              case rel => exact ⟨i + 1, c3, g3, by omega, rfl, by go_num, B3.out, O3.out⟩
              case measure => simp [intOf]; omega
            · subst hki2
              have hdr : L.drop k = [] := List.drop_of_length_le (by rw [HLL.out]; exact Nat.le_refl _)
              rw [hdr, List.append_nil] at HSR
              by_cases hcc : cap = k
              · subst hcc
                go_wp2_with (at_builtin; refine wpList_append_fits_any _ rfl _ _ 22 rfl w.heap.size 2 HI.out.choose 1 Try.underlying22 HI.out.choose_spec.1 HI.out.choose_spec.2.2.1 g2 (cap + 1) c2 _ rfl O2.out (some ⟨g, 0, none⟩) 0 0 [] (by first | rfl | (simp; done)) (by simp) (fun h => by cases h) (fun _ _ j u hj => by simp at hj) (fun u hu => by simp at hu) (by omega) ?_)
                intro w3 ho3 hgr3
                have B3 : Hid (Below w.heap.size w w3) := two_worlds HB.out (B2.out.grown hgr3 (by have := B2.out.size; omega) (fun p hp => by injection hp with hp; omega))
                have O3 : Hid (w3.ownsRow w.heap.size 2 1 (.slice (some ⟨g2, 0, none⟩) (cap + 1) c2) (cap + 1) ((srt (keyOf ks) (cap + 1)).map (Value.int .i64))) := by
                  unfold Hid; rw [HSR.out]
                  simpa using ho3
                clear ho3 hgr3 B2 O2
                go_wp2
                go_roundw
                case rel => exact ⟨cap + 1, c2, g2, by omega, rfl, by go_num, B3.out, O3.out⟩
                case measure => simp [intOf]; omega
              · have f2 : (k : Int) < (cap : Int) := by omega
                go_wp2_with (at_builtin; refine wpList_append_fits_any _ rfl _ _ 22 rfl w.heap.size 2 HI.out.choose 1 Try.underlying22 HI.out.choose_spec.1 HI.out.choose_spec.2.2.1 g2 (k + 1) c2 _ rfl O2.out (some ⟨g, k, none⟩) 0 (cap - k) [] (by first | rfl | (simp; done)) (by simp) (fun h => by cases h) (fun _ _ j u hj => by simp at hj) (fun u hu => by simp at hu) (by omega) ?_)
                intro w3 ho3 hgr3
                have B3 : Hid (Below w.heap.size w w3) := two_worlds HB.out (B2.out.grown hgr3 (by have := B2.out.size; omega) (fun p hp => by injection hp with hp; omega))
                have O3 : Hid (w3.ownsRow w.heap.size 2 1 (.slice (some ⟨g2, 0, none⟩) (k + 1) c2) (k + 1) ((srt (keyOf ks) (k + 1)).map (Value.int .i64))) := by
                  unfold Hid; rw [HSR.out]
                  simpa using ho3
                clear ho3 hgr3 B2 O2
                go_wp2
                go_roundw
                case rel => exact ⟨k + 1, c2, g2, by omega, rfl, by go_num, B3.out, O3.out⟩
                case measure => simp [intOf]; omega
    · have hin : i = n := by omega
      subst hin
      go_wp2
      go_ret
      exact ⟨g, cap, rfl, HB.out, HO.out⟩
end Go.Proofs.Ytdllfkgljnapoaa
