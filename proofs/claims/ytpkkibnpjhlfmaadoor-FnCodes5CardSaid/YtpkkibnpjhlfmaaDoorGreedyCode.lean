/-
  The walks of GreedyCode: the model's and the program's both hand back 'ansGreedy'.
-/
import Derived.Test.YtpkkibnpjhlfmaaDoorGreedy
namespace Go.Proofs.YtpkkibnpjhlfmaaDoor
open Go.RowKit

def ansGreedy (g r d : Int) : List ByteArray × Int := if codeW g r d 300 = 0 then (grTo d (bas (allW g.toNat r.toNat)) (g.toNat ^ r.toNat), 0) else ([], codeW g r d 300)
theorem ansGreedy_len (g r d : Int) : (ansGreedy g r d).1.length ≤ 1048576 := by
  unfold ansGreedy
  split
  · rename_i h
    obtain ⟨h1, h2⟩ := codeW_parts h
    have := grTo_len d (bas (allW g.toNat r.toNat)) (g.toNat ^ r.toNat)
    show (grTo d (bas (allW g.toNat r.toNat)) (g.toNat ^ r.toNat)).length ≤ _
    omega
  · simp
/-- All words have one length. -/
theorem bas_eachC {g r : Nat} : ∀ s ∈ bas (allW g r), s.size = r := by
  intro s hs
  obtain ⟨l, hl, rfl⟩ := List.mem_map.1 hs
  have := allW_each r l hl
  simpa [ByteArray.size] using this
theorem bas_at {g r : Nat} (i : Nat) (hi : i < (bas (allW g r)).length) : ((bas (allW g r))[i]).size = r := bas_eachC _ (List.getElem_mem _)
theorem row_cell {w : World} {g n cap lo : Nat} {e : TypeId} {ns : List ByteArray} (h : w.ownsRow lo e 1 (.slice (some ⟨g, 0, none⟩) n cap) n (ns.map Value.string)) (i : Nat) (hi : i < ns.length) : w.cell? ⟨g, i, none⟩ = some (.string ns[i]) := by
  have := h.cells (g := g) rfl i _ (strs_cell ns i hi)
  rw [Addr.add_lit, Nat.zero_add] at this
  exact this

theorem one_str (s : ByteArray) : ∀ u ∈ [Value.string s], u.oneCell' = true := by intro u hu; simp at hu; subst hu; rfl
theorem own_drew {w : World} {lo n : Nat} {e : TypeId} {size : Nat} {v : Value} {xs : List Value} (h : w.ownsRow lo e size v n xs) (q : Nat) : (w.drewN q).ownsRow lo e size v n xs := h
theorem own_drewA {w : World} {lo n : Nat} {e : TypeId} {size : Nat} {v : Value} {xs : List Value} (h : w.ownsRow lo e size v n xs) (q : Nat) (o : Obj) : ((w.alloc o).drewN q).ownsRow lo e size v n xs := own_drew (h.alloc o) q
theorem news_drew (w : World) (x : Value) (e : TypeId) (q : Nat) : ∀ j u, [x][j]? = some u → ((w.alloc (.cells #[x] e)).drewN q).cell? ((⟨w.heap.size, 0, none⟩ : Addr).add j) = some u := fun j u h => news_oneS w x e j u h

set_option maxRecDepth 100000 in
set_option maxHeartbeats 8000000 in
theorem specGreedy_any (g r d : Int) (w : World) : Calls Tryd.prog 27 #[.int .i64 g, .int .i64 r, .int .i64 d] w (GivesLS (ansGreedy g r d) w) := by
  have HC := fun W => l05Code_any g r d W
  have HI : Hid (∃ i0 : TypeInfo, Tryd.prog.info? 9 = some i0 ∧ i0.zero = some (.string ByteArray.empty) ∧ i0.size = 1 ∧ i0.bytes = 16) := info_parts info9
  rcases ne0_ways (codeW g r d 300) with ⟨h1, h2⟩ | ⟨h1, h2⟩
  · obtain ⟨⟨p1, p2, p3, p4, p5', p6'⟩, p5⟩ := codeW_parts h2
    have HA : Hid (ansGreedy g r d = (grTo d (bas (allW g.toNat r.toNat)) (g.toNat ^ r.toNat), 0)) := by unfold Hid ansGreedy; rw [if_pos h2]
    obtain ⟨gn, rfl⟩ : ∃ gn : Nat, g = gn := ⟨g.toNat, by omega⟩
    obtain ⟨rn, rfl⟩ : ∃ rn : Nat, r = rn := ⟨r.toNat, by omega⟩
    simp only [Int.toNat_natCast] at HA p5
    have HL := fun W => l05All_any gn rn (by omega) (by omega) (by omega) (by omega) W
    have HN : Hid ((bas (allW gn rn)).length = gn ^ rn) := by unfold Hid; rw [bas_length, allW_length (by omega)]
    have HEA : Hid (∀ s ∈ bas (allW gn rn), s.size = rn) := bas_eachC
    have hr8 : rn ≤ 8 := by omega
    rw [h2] at HC
    have hN300 : gn ^ rn ≤ 300 := by omega
    generalize ansGreedy (gn : Int) (rn : Int) d = R at HA
    generalize bas (allW gn rn) = all at HA HL HN HEA
    generalize gn ^ rn = N at HA HL HN hN300
    clear h1 h2 p5
    go_enter Tryd.func27, Tryd.ntmps27
    go_wp2_with (first | (go_at_call 71; refine (HC _).mono ?_; rintro e w' ⟨rfl, rfl⟩) | (go_at_call 72; refine (HL _).mono ?_; rintro e w1 ⟨ga, ca, rfl, hb1, ho1⟩))
    have HB1 := Lib.hid hb1
    have HO1 := Lib.hid ho1
    clear hb1 ho1 HL
    go_loopw [10, 11] (fun q iv wr => ∃ (i m : Nat) (ao : Option Addr) (cq : Nat), i ≤ N ∧ iv = .int .i64 (i : Int) ∧ q = .slice ao m cq ∧ m ≤ i ∧ Hid ((grTo d all i).length = m) ∧ Hid (Below w1.heap.size w1 wr) ∧ Hid (wr.ownsRow w1.heap.size 9 1 (.slice ao m cq) m ((grTo d all i).map Value.string))) (fun _ iv _ => N - (intOf iv).toNat)
    case atStart => exact ⟨0, 0, _, _, by omega, rfl, rfl, by omega, rfl, (Below.refl _ _).alloc (Nat.le_refl _) _, by unfold Hid; simpa [grTo] using World.ownsRow_made w1 #[] 0 (Nat.le_refl _) (by unfold maxLen; omega) rfl⟩
    case round =>
      obtain ⟨i, m, ao, cq, hi, rfl, rfl, hmi, HM, HB2, HO2⟩ := hrel
      by_cases hlt : i < N
      · have hia : i < all.length := by rw [HN.out]; exact hlt
        have hgl := (HO1.out.lt ga rfl).2
        obtain ⟨t, ht⟩ : ∃ t, all[i] = t := ⟨_, rfl⟩
        have HT := Lib.hid ht
        have x1 := row_cell HO1.out i hia
        rw [ht, ← HB2.out.cell (p := ⟨ga, i, none⟩) hgl] at x1
        have hts : t.size = rn := by rw [← ht]; exact HEA.out _ (List.getElem_mem _)
        have HNR := fun W hR => l05Near_any ao (grTo d all i) m cq t d W HM hR (by omega) (by omega) (fun u hu => by rw [hts]; exact HEA.out u (grTo_mem d all i (by omega) u hu))
        have HRS : Hid (RS wr ao (grTo d all i)) := rowS_RS HM HO2.out
        have hk0 : (0 : Int) ≤ (i : Int) := by omega
        have hk1 : (i : Int) < (N : Int) := by omega
        clear ht
        cases hnr : nearB (grTo d all i) t d with
        | true =>
          have HE := Lib.hid (grTo_near hia HT.out hnr)
          rw [hnr] at HNR
          go_wp2_with (first | (go_at_call 73; refine (HNR _ HRS.out).mono ?_; rintro e w3 ⟨rfl, q, rfl⟩))
          go_roundw
          case rel => exact ⟨i + 1, m, ao, cq, by omega, by go_num, rfl, by omega, by unfold Hid; rw [HE.out]; exact HM.out, Below.drewN' HB2.out _, by unfold Hid; rw [HE.out]; exact HO2.out⟩
          case measure => simp [intOf]; omega
        | false =>
          have HE := Lib.hid (grTo_far hia HT.out hnr)
          rw [hnr] at HNR
          have HGE : Hid (∀ q, (Value.slice ao m cq).ownBlock = some q → w1.heap.size ≤ q) := fun q hq => (HO2.out.lt q hq).1
          generalize hxs : (grTo d all i).map Value.string = xs at HO2
          have HXS := Lib.hid hxs
          clear hxs
          go_wp2_with (first | (go_at_call 73; refine (HNR _ HRS.out).mono ?_; rintro e w3 ⟨rfl, q, rfl⟩) | (at_builtin; refine wpList_append_lies _ rfl _ _ 24 rfl w1.heap.size 9 HI.out.choose (.string ByteArray.empty) 1 16 Tryd.underlying24 HI.out.choose_spec.1 HI.out.choose_spec.2.1 HI.out.choose_spec.2.2.1 HI.out.choose_spec.2.2.2 rfl (by decide) (.slice ao m cq) m xs rfl ((own_drew HO2.out _).alloc _) ⟨wr.heap.size, 0, none⟩ 1 1 [.string t] rfl rfl (news_oneS (wr.drewN q) _ _) (one_str _) (by omega) (by unfold maxLen; omega) (by omega) (by simp; have := HB2.out.size; omega) _ rfl ?_))
          intro g' cap' w5 hown1 hgrow hat hlt2
          have B5 : Hid (Below w1.heap.size w1 w5) := ((Below.drewN' HB2.out q).alloc HB2.out.size _).grown hgrow (by have := HB2.out.size; simp; omega) HGE.out
          have O5 : Hid (w5.ownsRow w1.heap.size 9 1 (.slice (some ⟨g', 0, none⟩) (m + 1) cap') (m + 1) ((grTo d all (i + 1)).map Value.string)) := by
            unfold Hid; rw [HE.out, List.map_append, HXS.out]; exact hown1
          have M5 : Hid ((grTo d all (i + 1)).length = m + 1) := by unfold Hid; rw [HE.out, List.length_append, HM.out]; rfl
          clear hown1 hgrow hat hlt2
          go_wp2
          go_roundw
          case rel => exact ⟨i + 1, m + 1, _, cap', by omega, by go_num, rfl, by omega, M5.out, B5.out, O5.out⟩
          case measure => simp [intOf]; omega
      · have hin : i = N := by omega
        subst hin
        have BB : Hid (Below w.heap.size w wr) := two_worlds' HB1.out HB2.out
        have OO : Hid (wr.ownsRow w.heap.size 9 1 (.slice ao m cq) m ((grTo d all i).map Value.string)) := own_lower HO2.out HB1.out.size
        go_wp2
        exact bodyPost_ret (v := .tuple #[.slice ao m cq, .int .i64 0]) (by simp [results, Tryd.results27, go_sem]) rfl (givesLS_of HA.out BB.out HM.out OO.out)
  · have HA : Hid (ansGreedy g r d = ([], codeW g r d 300)) := by unfold Hid ansGreedy; rw [if_neg h2]
    generalize codeW g r d 300 = cc at HC HA h1
    generalize ansGreedy g r d = R at HA
    clear h2
    go_enter Tryd.func27, Tryd.ntmps27
    go_wp2_with (first | (go_at_call 71; refine (HC _).mono ?_; rintro e w' ⟨rfl, rfl⟩))
    exact bodyPost_ret (v := .tuple #[.slice none 0 0, .int .i64 cc]) (by simp [results, Tryd.results27, go_sem]) rfl (givesLS_nil HA.out (Below.refl _ _))

set_option maxRecDepth 100000 in
set_option maxHeartbeats 8000000 in
theorem implGreedy_any (g r d : Int) (w : World) : Calls Tryd.prog 26 #[.int .i64 g, .int .i64 r, .int .i64 d] w (GivesLS (ansGreedy g r d) w) := by
  have HK := fun W => newKind_any g r d W
  have HC := fun W => check_any g r d 300 W
  have HI : Hid (∃ i0 : TypeInfo, Tryd.prog.info? 9 = some i0 ∧ i0.zero = some (.string ByteArray.empty) ∧ i0.size = 1 ∧ i0.bytes = 16) := info_parts info9
  rcases ne0_ways (codeW g r d 300) with ⟨h1, h2⟩ | ⟨h1, h2⟩
  · obtain ⟨⟨p1, p2, p3, p4, p5', p6'⟩, p5⟩ := codeW_parts h2
    have HA : Hid (ansGreedy g r d = (grTo d (bas (allW g.toNat r.toNat)) (g.toNat ^ r.toNat), 0)) := by unfold Hid ansGreedy; rw [if_pos h2]
    obtain ⟨gn, rfl⟩ : ∃ gn : Nat, g = gn := ⟨g.toNat, by omega⟩
    obtain ⟨rn, rfl⟩ : ∃ rn : Nat, r = rn := ⟨r.toNat, by omega⟩
    simp only [Int.toNat_natCast] at HA p5
    have HL := fun W => words_any gn rn (by omega) (by omega) (by omega) (by omega) W
    have HN : Hid ((bas (allW gn rn)).length = gn ^ rn) := by unfold Hid; rw [bas_length, allW_length (by omega)]
    have HEA : Hid (∀ s ∈ bas (allW gn rn), s.size = rn) := bas_eachC
    have hr8 : rn ≤ 8 := by omega
    rw [h2] at HC
    have hN300 : gn ^ rn ≤ 300 := by omega
    generalize ansGreedy (gn : Int) (rn : Int) d = R at HA
    generalize bas (allW gn rn) = all at HA HL HN HEA
    generalize gn ^ rn = N at HA HL HN hN300
    clear h1 h2 p5
    go_enter Tryd.func26, Tryd.ntmps26
    go_wp2_with (first | (go_at_call 67; refine (HK _).mono ?_; rintro e w1 ⟨rfl, hb1⟩) | (go_at_call 68; refine (HC _).mono ?_; rintro e w2 ⟨rfl, hb2⟩; have hk0 := (hb2.cell (p := ⟨w1.heap.size, 0, none⟩) (by simp)); have hk1 := (hb2.cell (p := ⟨w1.heap.size, 1, none⟩) (by simp)); have hk2 := (hb2.cell (p := ⟨w1.heap.size, 2, none⟩) (by simp)); simp [go_sem] at hk0 hk1 hk2) | (go_at_call 69; refine (HL _).mono ?_; rintro e w3 ⟨ga, ca, rfl, hb3, ho3⟩))
    have B12 : Below w1.heap.size w1 w2 := Below.trans (by repeat (first | exact Below.refl _ _ | refine Below.alloc ?_ (by simp; try omega) _ | refine Below.setCell ?_ (by simp; try omega) _)) (hb2.mono (by simp))
    have B2 := two_worlds' hb1 B12
    have HKB : Hid (w1.heap.size < w2.heap.size) := World.block_lt_of_cell? w2 _ hk0
    have k0 := (hb3.cell (p := ⟨w1.heap.size, 0, none⟩) HKB.out).trans hk0
    have k1 := (hb3.cell (p := ⟨w1.heap.size, 1, none⟩) HKB.out).trans hk1
    have k2 := (hb3.cell (p := ⟨w1.heap.size, 2, none⟩) HKB.out).trans hk2
    have HB1 := Lib.hid (two_worlds' B2 hb3)
    have HO1 := Lib.hid (own_lower ho3 (show w.heap.size ≤ w2.heap.size from B2.size))
    have HK3 : Hid (w1.heap.size < w3.heap.size) := Nat.lt_of_lt_of_le HKB.out hb3.size
    have K0 := Lib.hid k0
    have K1 := Lib.hid k1
    have K2 := Lib.hid k2
    clear hb1 hb2 hb3 ho3 HL B12 B2 hk0 hk1 hk2 k0 k1 k2 HKB
    go_loopw [10, 26] (fun q iv wr => ∃ (i m : Nat) (ao : Option Addr) (cq : Nat), i ≤ N ∧ iv = .int .i64 (i : Int) ∧ q = .slice ao m cq ∧ m ≤ i ∧ Hid ((grTo d all i).length = m) ∧ Hid (Below w3.heap.size w3 wr) ∧ Hid (wr.ownsRow w3.heap.size 9 1 (.slice ao m cq) m ((grTo d all i).map Value.string))) (fun _ iv _ => N - (intOf iv).toNat)
    case atStart => exact ⟨0, 0, _, _, by omega, rfl, rfl, by omega, rfl, Below.refl _ _, by unfold Hid; simpa [grTo] using World.ownsRow_nil w3 w3.heap.size 9 1⟩
    case round =>
      obtain ⟨i, m, ao, cq, hi, rfl, rfl, hmi, HM, HB2, HO2⟩ := hrel
      by_cases hlt : i < N
      · have hia : i < all.length := by rw [HN.out]; exact hlt
        have hgl := (HO1.out.lt ga rfl).2
        obtain ⟨t, ht⟩ : ∃ t, all[i] = t := ⟨_, rfl⟩
        have HT := Lib.hid ht
        have x1 := row_cell HO1.out i hia
        rw [ht, ← HB2.out.cell (p := ⟨ga, i, none⟩) hgl] at x1
        have k0 := (HB2.out.cell (p := ⟨w1.heap.size, 0, none⟩) HK3.out).trans K0.out
        have k1 := (HB2.out.cell (p := ⟨w1.heap.size, 1, none⟩) HK3.out).trans K1.out
        have k2 := (HB2.out.cell (p := ⟨w1.heap.size, 2, none⟩) HK3.out).trans K2.out
        have hts : t.size = rn := by rw [← ht]; exact HEA.out _ (List.getElem_mem _)
        have HNR := fun W hR => fits_any (gn : Int) (rn : Int) d ao (grTo d all i) m cq t W HM hR (by omega) (by omega) (fun u hu => by rw [hts]; exact HEA.out u (grTo_mem d all i (by omega) u hu))
        have HRS : Hid (RS wr ao (grTo d all i)) := rowS_RS HM HO2.out
        have hk0 : (0 : Int) ≤ (i : Int) := by omega
        have hk1 : (i : Int) < (N : Int) := by omega
        clear ht
        cases hnr : nearB (grTo d all i) t d with
        | true =>
          have HE := Lib.hid (grTo_near hia HT.out hnr)
          rw [hnr] at HNR
          go_wp2_with (first | (go_at_call 70; refine (HNR _ HRS.out).mono ?_; rintro e w4 ⟨rfl, hb4⟩))
          have B4 : Hid (Below w3.heap.size w3 w4) := two_worlds' HB2.out hb4
          have O4 : Hid (w4.ownsRow w3.heap.size 9 1 (.slice ao m cq) m ((grTo d all i).map Value.string)) := HO2.out.kept (grown_below hb4 none) (by cases (Value.slice ao m cq).ownBlock <;> simp)
          clear hb4
          go_roundw
          case rel => exact ⟨i + 1, m, ao, cq, by omega, by go_num, rfl, by omega, by unfold Hid; rw [HE.out]; exact HM.out, B4.out, by unfold Hid; rw [HE.out]; exact O4.out⟩
          case measure => simp [intOf]; omega
        | false =>
          have HE := Lib.hid (grTo_far hia HT.out hnr)
          rw [hnr] at HNR
          go_wp2_with fail
          refine (HNR _ HRS.out).mono ?_
          rintro e w4 ⟨rfl, hb4⟩
          have B4 : Hid (Below w3.heap.size w3 w4) := two_worlds' HB2.out hb4
          have O4 : Hid (w4.ownsRow w3.heap.size 9 1 (.slice ao m cq) m ((grTo d all i).map Value.string)) := HO2.out.kept (grown_below hb4 none) (by cases (Value.slice ao m cq).ownBlock <;> simp)
          have HGE : Hid (∀ q, (Value.slice ao m cq).ownBlock = some q → w3.heap.size ≤ q) := fun q hq => (O4.out.lt q hq).1
          clear hb4 k0 k1 k2 x1
          generalize hxs : (grTo d all i).map Value.string = xs at O4
          have HXS := Lib.hid hxs
          clear hxs
          go_wp2_with (first | (at_builtin; refine wpList_append_lies _ rfl _ _ 24 rfl w3.heap.size 9 HI.out.choose (.string ByteArray.empty) 1 16 Tryd.underlying24 HI.out.choose_spec.1 HI.out.choose_spec.2.1 HI.out.choose_spec.2.2.1 HI.out.choose_spec.2.2.2 rfl (by decide) (.slice ao m cq) m xs rfl (O4.out.alloc _) ⟨w4.heap.size, 0, none⟩ 1 1 [.string t] rfl rfl (news_oneS w4 _ _) (one_str _) (by omega) (by unfold maxLen; omega) (by omega) (by simp; have := B4.out.size; omega) _ rfl ?_))
          intro g' cap' w5 hown1 hgrow hat hlt2
          have B5 : Hid (Below w3.heap.size w3 w5) := (B4.out.alloc B4.out.size _).grown hgrow (by have := B4.out.size; simp; omega) HGE.out
          have O5 : Hid (w5.ownsRow w3.heap.size 9 1 (.slice (some ⟨g', 0, none⟩) (m + 1) cap') (m + 1) ((grTo d all (i + 1)).map Value.string)) := by
            unfold Hid; rw [HE.out, List.map_append, HXS.out]; exact hown1
          have M5 : Hid ((grTo d all (i + 1)).length = m + 1) := by unfold Hid; rw [HE.out, List.length_append, HM.out]; rfl
          clear hown1 hgrow hat hlt2
          go_wp2
          go_roundw
          case rel => exact ⟨i + 1, m + 1, _, cap', by omega, by go_num, rfl, by omega, M5.out, B5.out, O5.out⟩
          case measure => simp [intOf]; omega
      · have hin : i = N := by omega
        subst hin
        have BB : Hid (Below w.heap.size w wr) := two_worlds' HB1.out HB2.out
        have OO : Hid (wr.ownsRow w.heap.size 9 1 (.slice ao m cq) m ((grTo d all i).map Value.string)) := own_lower HO2.out HB1.out.size
        go_wp2
        exact bodyPost_ret (v := .tuple #[.slice ao m cq, .int .i64 0]) (by simp [results, Tryd.results26, go_sem]) rfl (givesLS_of HA.out BB.out HM.out OO.out)
  · have HA : Hid (ansGreedy g r d = ([], codeW g r d 300)) := by unfold Hid ansGreedy; rw [if_neg h2]
    generalize codeW g r d 300 = cc at HC HA h1
    generalize ansGreedy g r d = R at HA
    clear h2
    go_enter Tryd.func26, Tryd.ntmps26
    go_wp2_with (first | (go_at_call 67; refine (HK _).mono ?_; rintro e w1 ⟨rfl, hb1⟩) | (go_at_call 68; refine (HC _).mono ?_; rintro e w2 ⟨rfl, hb2⟩))
    have B12 : Below w1.heap.size w1 w2 := Below.trans (by repeat (first | exact Below.refl _ _ | refine Below.alloc ?_ (by simp; try omega) _ | refine Below.setCell ?_ (by simp; try omega) _)) (hb2.mono (by simp))
    have B2 := two_worlds' hb1 B12
    exact bodyPost_ret (v := .tuple #[.slice none 0 0, .int .i64 cc]) (by simp [results, Tryd.results26, go_sem]) rfl (givesLS_nil HA.out B2)
end Go.Proofs.YtpkkibnpjhlfmaaDoor
