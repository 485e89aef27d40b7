/-
  The walk of AddAddress: the model's hands back 'addAns'.
-/
import Derived.Test.YtpkkibnpjhlfmaaDoorAddAdr
import Derived.Deep.RegionLaw
namespace Go.Proofs.YtpkkibnpjhlfmaaDoor
open Go.RowKit

theorem strs_oneC (ss : List ByteArray) : ∀ u ∈ ss.map Value.string, u.oneCell' = true := by
  intro u hu
  obtain ⟨s, _, rfl⟩ := List.mem_map.1 hu
  rfl
theorem heap_dnew (w : World) (o : Obj) (g : Nat) (h : g = w.heap.size) : ((w.alloc o).drew).heap[g]? = some o := heap_at_new w o g h
theorem heap_dold (w : World) (o o' : Obj) (g : Nat) (h : g < w.heap.size) (h2 : w.heap[g]? = some o') : ((w.alloc o).drew).heap[g]? = some o' := (heap_alloc_old w o g h).trans h2
theorem own_emptyAt {W : World} {E lo : Nat} {e : TypeId} (h : W.heap[E]? = some (.cells #[] e (0, 0))) (hlo : lo ≤ E) : W.ownsRow lo e 1 (.slice (some ⟨E, 0, none⟩) 0 0) 0 [] :=
  ⟨rfl, .inr ⟨E, 0, #[], rfl, hlo, h, Nat.le_refl _, by unfold maxLen; omega, rfl, rfl⟩⟩
theorem news_strs {w : World} {b off : Nat} {ss : List ByteArray} (hc : ∀ i (h : i < ss.length), w.cell? ⟨b, off + i, none⟩ = some (.string ss[i])) (j : Nat) (u : Value) (h : (ss.map Value.string)[j]? = some u) : w.cell? ((⟨b, off, none⟩ : Addr).add j) = some u := by
  have hj : j < ss.length := by
    have := (List.getElem?_eq_some_iff.1 h).1
    simpa using this
  rw [strs_cell ss j hj] at h
  rw [Addr.add_lit, hc j hj]
  exact h

set_option maxRecDepth 100000 in
set_option maxHeartbeats 8000000 in
theorem specAdd_any (g : Int) (a : Option Addr) (ss : List ByteArray) (n ca : Nat) (d : Int) (w : World) (hn : Hid (ss.length = n)) (ha : RS w a ss) (hmax : n ≤ 1048576) (hsz : Hid (∀ s ∈ ss, s.size ≤ 1048576)) :
    Calls Tryd.prog 36 #[.int .i64 g, .slice a n ca, .int .i64 d] w (GivesLS (addAns g ss d) w) := by
  have HV := l05Ok_any g a ss n ca w hn ha hmax hsz
  have HI : Hid (∃ i0 : TypeInfo, Tryd.prog.info? 9 = some i0 ∧ i0.zero = some (.string ByteArray.empty) ∧ i0.size = 1 ∧ i0.bytes = 16) := info_parts info9
  cases ho : okB g (bls ss) with
  | false =>
    have HR := Lib.hid (addAns_bad (d := d) ho)
    rw [ho] at HV
    clear ha
    go_enter Tryd.func36, Tryd.ntmps36
    go_wp2_with (first | (go_at_call 49; refine HV.mono ?_; rintro e w1 ⟨rfl, hb1⟩))
    exact bodyPost_ret (v := .tuple #[.slice none 0 0, .int .i64 1]) (by simp [results, Tryd.results36, go_sem]) rfl (givesLS_nil HR.out hb1)
  | true =>
    rw [ho] at HV
    by_cases hd : 1 ≤ d ∧ d ≤ 8
    · have id := inB_of hd
      by_cases h0 : n = 0
      · have HR := Lib.hid (addAns_none ho hd (by rw [hn.out]; exact h0))
        have hn0 : ((n : Int) == 0) = true := by simp [h0]
        have HZ := Lib.hid h0
        clear ha hd h0
        go_enter Tryd.func36, Tryd.ntmps36
        go_wp2_with (first | (go_at_call 49; refine HV.mono ?_; rintro e w1 ⟨rfl, hb1⟩) | (go_at_call 61; refine (l00In_any _ _ _ _).mono ?_; rintro e w' ⟨rfl, rfl⟩))
        exact bodyPost_ret (v := .tuple #[.slice none 0 0, .int .i64 6]) (by simp [results, Tryd.results36, go_sem]) rfl (givesLS_nil HR.out hb1)
      · obtain ⟨p1, p2, p3⟩ := ok_parts ho
        have h0l : 0 < ss.length := by rw [hn.out]; omega
        obtain ⟨l1, l8, hle⟩ := ok_first ho h0l
        obtain ⟨gn, rfl⟩ : ∃ gn : Nat, g = gn := ⟨g.toNat, by omega⟩
        obtain ⟨b, off, rfl, hb, hc⟩ := ha.addr h0l
        have HC : Hid (∀ W, Below w.heap.size w W → ∀ i (h : i < ss.length), W.cell? ⟨b, off + i, none⟩ = some (.string ss[i])) := fun W hB i h => (hB.cell (p := ⟨b, off + i, none⟩) hb).trans (hc i h)
        obtain ⟨t0, ht0⟩ : ∃ t0, ss[0] = t0 := ⟨_, rfl⟩
        have HLA := Lib.hid (getD0 h0l ht0)
        have HZ0 : Hid (∀ W, Below w.heap.size w W → W.cell? ⟨b, off, none⟩ = some (.string t0)) := fun W hB => by have := HC.out W hB 0 h0l; rw [ht0, Nat.add_zero] at this; exact this
        have HA : Hid (∀ W, Below w.heap.size w W → RS W (some ⟨b, off, none⟩) ss) := fun W hB => ha.below hB
        have hn40 : n ≤ 40 := by rw [← hn.out]; exact p3
        have hn0 : ((n : Int) == 0) = false := by simp; omega
        have hnp : (0 : Int) < (n : Int) := by omega
        have HLE := Lib.hid hle
        clear ha hc ht0 hle
        rw [HLA.out] at l1 l8
        have hs8 : t0.size ≤ 8 := l8
        have HCT := fun W => l05Whole_any (gn : Int) (t0.size : Int) W
        by_cases hf : 40 ≤ n ∨ 300 < gn ^ t0.size
        · have HR := Lib.hid (addAns_full ho hd (by rw [hn.out]; exact h0) (by rw [hn.out, HLA.out, Int.toNat_natCast]; exact hf))
          by_cases h40 : 40 ≤ n
          · have e40 : (40 : Int) ≤ (n : Int) := by omega
            clear hd hf h0 HC HLE
            go_enter Tryd.func36, Tryd.ntmps36
            go_wp2_with (first | (go_at_call 49; refine HV.mono ?_; rintro e w1 ⟨rfl, hb1⟩; have z1 := HZ0.out w1 hb1) | (go_at_call 61; refine (l00In_any _ _ _ _).mono ?_; rintro e w' ⟨rfl, rfl⟩))
            exact bodyPost_ret (v := .tuple #[.slice none 0 0, .int .i64 5]) (by simp [results, Tryd.results36, go_sem]) rfl (givesLS_nil HR.out hb1)
          · have e40 : ¬ (40 : Int) ≤ (n : Int) := by omega
            have hcw : codeW (gn : Int) (t0.size : Int) 1 300 = 5 := codeW_full (by omega) (by rw [Int.toNat_natCast, Int.toNat_natCast]; omega)
            rw [hcw] at HCT
            clear hd hf h0 HC HLE hcw
            go_enter Tryd.func36, Tryd.ntmps36
            go_wp2_with (first | (go_at_call 49; refine HV.mono ?_; rintro e w1 ⟨rfl, hb1⟩; have z1 := HZ0.out w1 hb1) | (go_at_call 61; refine (l00In_any _ _ _ _).mono ?_; rintro e w' ⟨rfl, rfl⟩) | (go_at_call 78; refine (HCT _).mono ?_; rintro e w' ⟨rfl, rfl⟩))
            exact bodyPost_ret (v := .tuple #[.slice none 0 0, .int .i64 5]) (by simp [results, Tryd.results36, go_sem]) rfl (givesLS_nil HR.out hb1)
        · have hg300 : gn ^ t0.size ≤ 300 := by omega
          have e40 : ¬ (40 : Int) ≤ (n : Int) := by omega
          have hcw : codeW (gn : Int) (t0.size : Int) 1 300 = 0 := codeW_ok (by omega) (by rw [Int.toNat_natCast, Int.toNat_natCast]; omega)
          rw [hcw] at HCT
          have HWD := fun W => l05All_any gn t0.size (by omega) (by omega) l8 hg300 W
          have HFO : Hid (∀ t, firstFar d ss (bas (allW gn t0.size)) = some t → addAns gn ss d = (ss ++ [t], 0)) := fun t ht => addAns_found ho hd (by rw [hn.out]; exact h0) (by rw [hn.out, HLA.out, Int.toNat_natCast]; exact hf) (by rw [HLA.out, Int.toNat_natCast]; exact ht)
          have HLO : Hid (firstFar d ss (bas (allW gn t0.size)) = none → addAns gn ss d = ([], 3)) := fun ht => addAns_lost ho hd (by rw [hn.out]; exact h0) (by rw [hn.out, HLA.out, Int.toNat_natCast]; exact hf) (by rw [HLA.out, Int.toNat_natCast]; exact ht)
          have HN : Hid ((bas (allW gn t0.size)).length = gn ^ t0.size) := by unfold Hid; rw [bas_length, allW_length (by omega)]
          have HEA : Hid (∀ s ∈ bas (allW gn t0.size), s.size = t0.size) := bas_each
          generalize addAns (gn : Int) ss d = R at HFO HLO
          generalize bas (allW gn t0.size) = all at HWD HFO HLO HN HEA
          generalize gn ^ t0.size = N at hg300 HWD HN
          clear hd hf h0 hcw
          go_enter Tryd.func36, Tryd.ntmps36
          go_wp2_with (first | (go_at_call 49; refine HV.mono ?_; rintro e w1 ⟨rfl, hb1⟩; have z1 := HZ0.out w1 hb1) | (go_at_call 61; refine (l00In_any _ _ _ _).mono ?_; rintro e w' ⟨rfl, rfl⟩) | (go_at_call 78; refine (HCT _).mono ?_; rintro e w' ⟨rfl, rfl⟩) | (go_at_call 72; refine (HWD _).mono ?_; rintro e w4 ⟨ga, cga, rfl, hb4, ho4⟩))
          have HB1 := Lib.hid (two_worlds' hb1 hb4)
          have HO1 := Lib.hid (own_lower ho4 (show w.heap.size ≤ w1.heap.size from hb1.size))
          clear hb1 hb4 ho4 z1 HCT HWD
          go_loopw [9] (fun iv wr => ∃ i q : Nat, i ≤ N ∧ iv = .int .i64 (i : Int) ∧ Hid (Below w4.heap.size w4 wr) ∧ Hid (firstFar d ss all = firstFar d ss (all.drop i))) (fun iv _ => N - (intOf iv).toNat)
          case atStart => exact ⟨0, 0, by omega, rfl, Below.refl _ _, firstFar_drop d ss all⟩
          case round =>
            obtain ⟨i, _, hi, rfl, HB2, HFF⟩ := hrel
            have HBW : Hid (Below w.heap.size w wr) := two_worlds' HB1.out HB2.out
            by_cases hlt : i < N
            · have hia : i < all.length := by rw [HN.out]; exact hlt
              have hgl := (HO1.out.lt ga rfl).2
              have hgw : ga < wr.heap.size := Nat.lt_of_lt_of_le hgl HB2.out.size
              obtain ⟨t, ht⟩ : ∃ t, all[i] = t := ⟨_, rfl⟩
              have HT := Lib.hid ht
              have x1 := row_cellG HO1.out i hia
              rw [ht, ← HB2.out.cell (p := ⟨ga, i, none⟩) hgl] at x1
              have hts : t.size = t0.size := by rw [← ht]; exact HEA.out _ (List.getElem_mem _)
              have HFT := l05Near_any (some ⟨b, off, none⟩) ss n ca t d wr hn (HA.out wr HBW.out) hmax (by omega) (fun u hu => by rw [hts, ← HLA.out]; exact HLE.out u hu)
              have hk0 : (0 : Int) ≤ (i : Int) := by omega
              have hk1 : (i : Int) < (N : Int) := by omega
              clear ht
              cases hnr : nearB ss t d with
              | true =>
                have HE : Hid (firstFar d ss all = firstFar d ss (all.drop (i + 1))) := HFF.out.trans (firstFar_miss hia HT.out hnr)
                rw [hnr] at HFT
                go_wp2_with (first | (go_at_call 73; refine HFT.mono ?_; rintro e w5 ⟨rfl, q, rfl⟩))
                go_roundw
                case rel => exact ⟨i + 1, 0, by omega, by go_num, Below.drewN' HB2.out _, HE.out⟩
                case measure => simp [intOf]; omega
              | false =>
                have HE : Hid (R = (ss ++ [t], 0)) := HFO.out t (HFF.out.trans (firstFar_hit hia HT.out hnr))
                rw [hnr] at HFT
                go_wp2_with fail
                refine HFT.mono ?_
                rintro e w5 ⟨rfl, q, rfl⟩
                have B5 : Hid (Below w.heap.size w (wr.drewN q)) := Below.drewN' HBW.out q
                have x5 : (wr.drewN q).cell? ⟨ga, i, none⟩ = some (.string t) := x1
                have hgw5 : ga < (wr.drewN q).heap.size := hgw
                clear x1 hgw
                generalize wr.drewN q = w5 at B5 x5 hgw5
                have HC5 := Lib.hid (HC.out w5 B5.out)
                have hbw : b < w5.heap.size := Nat.lt_of_lt_of_le hb B5.out.size
                go_wp2_with fail
                go_region_law (first | ((with_reducible_and_instances show (if Region.wanted { dst := some 60, op := _, type := _, pos := _, after := _, guard := none } _ = true then _ else _)); refine step_append_lies _ (by rfl) _ _ 24 (by rfl) w5.heap.size 9 HI.out.choose (.string ByteArray.empty) 1 16 Tryd.underlying24 HI.out.choose_spec.1 HI.out.choose_spec.2.1 HI.out.choose_spec.2.2.1 HI.out.choose_spec.2.2.2 rfl (by decide) (.slice (some ⟨g6, 0, none⟩) n cap6) n (ss.map Value.string) (by rfl) ?_ _ 1 1 [.string t] (by rfl) rfl ?_ (one_strG t) (by omega) (by unfold maxLen; omega) (by omega) ?_ _ rfl ?_; (next => (first | exact hown7 | exact hown7.alloc _)); (next => (intro j u hj; match j, hj with | 0, hj => (simp at hj; subst hj; first | (simp [Addr.add, go_sem]; done) | (rw [Addr.add_lit]; refine hS6 _ _ ?_ ?_; (focus (simp [go_sem]; done)); (focus (simp [Value.ownBlock]; done)))))); (next => (have := hb6.size; first | omega | (simp; done) | (simp; omega))); intro g7 cap7 w7 hown8 hgrow7 hat7 hlt7) | ((with_reducible_and_instances show (if Region.wanted { dst := some 54, op := _, type := _, pos := _, after := _, guard := none } _ = true then _ else _)); refine step_append_lies _ (by rfl) _ _ 24 (by rfl) w5.heap.size 9 HI.out.choose (.string ByteArray.empty) 1 16 Tryd.underlying24 HI.out.choose_spec.1 HI.out.choose_spec.2.1 HI.out.choose_spec.2.2.1 HI.out.choose_spec.2.2.2 rfl (by decide) _ 0 [] (by rfl) (own_emptyAt ?_ ?_) ⟨b, off, none⟩ n ca (ss.map Value.string) (by rfl) ?_ ?_ (strs_oneC ss) (by omega) (by unfold maxLen; omega) (by omega) ?_ _ rfl ?_; (next => (first | exact heap_dnew _ _ _ (by simp) | exact heap_dold _ _ _ _ (by simp) (heap_at_new _ _ _ (by simp)))); (next => (first | (simp; done) | (simp; omega))); (next => (simp [hn.out])); (next => (intro j u hj; refine (Below.cell (p := (⟨b, off, none⟩ : Addr).add j) (?_ : Below w5.heap.size w5 _) (by rw [Addr.add_lit]; exact hbw)).trans (news_strs HC5.out j u hj); (repeat (first | exact Below.refl _ _ | refine Below.drew ?_ | refine Below.drewN' ?_ _ | refine Below.alloc ?_ (by first | (simp; done) | (simp; omega)) _)); done)); (next => (first | (simp; done) | (simp; omega))); intro g6 cap6 w6 hown6 hgrow6 hat6 hlt6; have x6 : w6.cell? ⟨ga, i, none⟩ = some (.string t) := hgrow6.cell ((Below.cell (p := ⟨ga, i, none⟩) (show Below w5.heap.size w5 _ from (by (repeat (first | exact Below.refl _ _ | refine Below.drew ?_ | refine Below.drewN' ?_ _ | refine Below.alloc ?_ (by first | (simp; done) | (simp; omega)) _ | refine Below.setCell ?_ (by first | (simp; done) | (simp; omega)) _)); done)) hgw5).trans x5) (by simp [Value.ownBlock]; omega); have hS6 := fun (S : Nat) (v : Value) h hne => World.grownBy.cell hgrow6 (a := ⟨S, 0, none⟩) (v := v) h hne; have hown7 : w6.ownsRow w5.heap.size 9 1 (.slice (some ⟨g6, 0, none⟩) n cap6) n (ss.map Value.string) := (by simpa using hown6); have hb6 : Below w5.heap.size w5 w6 := Below.grown (show Below w5.heap.size w5 _ from (by (repeat (first | exact Below.refl _ _ | refine Below.drew ?_ | refine Below.drewN' ?_ _ | refine Below.alloc ?_ (by first | (simp; done) | (simp; omega)) _ | refine Below.setCell ?_ (by first | (simp; done) | (simp; omega)) _)); done)) hgrow6 (by simp; try omega) (fun q hq => by simp [Value.ownBlock] at hq; omega)))
                all_goals
                  have hb7 : Below w5.heap.size w5 w7 := Below.grown (by first | exact hb6 | exact Below.alloc hb6 hb6.size _) hgrow7 (by have := hb6.size; first | omega | (simp; omega)) (fun q hq => (hown7.lt q hq).1)
                  have B7 := Lib.hid (two_worlds' B5.out hb7)
                  have O7 : Hid (w7.ownsRow w.heap.size 9 1 (.slice (some ⟨g7, 0, none⟩) (n + 1) cap7) (n + 1) ((ss ++ [t]).map Value.string)) := own_lower (by simpa using hown8) B5.out.size
                  have M7 : Hid ((ss ++ [t]).length = n + 1) := by unfold Hid; simp [hn.out]
                  clear hown8 hgrow7 hat7 hown7 hgrow6 hat6 hown6 hb6 hb7
                  go_wp2
                  exact bodyPost_ret (v := .tuple #[.slice (some ⟨g7, 0, none⟩) (n + 1) cap7, .int .i64 0]) (by simp [results, Tryd.results36, go_sem]) rfl (givesLS_of HE.out B7.out M7.out O7.out)
            · have hin : i = N := by omega
              have HE : Hid (R = ([], 3)) := HLO.out (by rw [HFF.out, hin, ← HN.out]; exact firstFar_end)
              go_wp2
              exact bodyPost_ret (v := .tuple #[.slice none 0 0, .int .i64 3]) (by simp [results, Tryd.results36, go_sem]) rfl (givesLS_nil HE.out HBW.out)
    · have id := inB_no hd
      have HR := Lib.hid (addAns_range ho hd)
      clear ha hd
      go_enter Tryd.func36, Tryd.ntmps36
      go_wp2_with (first | (go_at_call 49; refine HV.mono ?_; rintro e w1 ⟨rfl, hb1⟩) | (go_at_call 61; refine (l00In_any _ _ _ _).mono ?_; rintro e w' ⟨rfl, rfl⟩))
      exact bodyPost_ret (v := .tuple #[.slice none 0 0, .int .i64 2]) (by simp [results, Tryd.results36, go_sem]) rfl (givesLS_nil HR.out hb1)
end Go.Proofs.YtpkkibnpjhlfmaaDoor
