/-
  The walks of AddAddress: the model's and the program's both hand back 'addAns'.
-/
import Derived.Test.YtpkkibnpjhlfmaaDoorGreedy
import Derived.Test.YtpkkibnpjhlfmaaDoorLeastAns
import Derived.Test.YtpkkibnpjhlfmaaDoorShelf
namespace Go.Proofs.YtpkkibnpjhlfmaaDoor
open Go.RowKit

/-- The first of some texts that is far enough from others. -/
def firstFar (d : Int) (ss : List ByteArray) (all : List ByteArray) : Option ByteArray := all.find? fun s => !nearB ss s d
theorem firstFar_drop (d : Int) (ss all : List ByteArray) : firstFar d ss all = firstFar d ss (all.drop 0) := rfl
theorem firstFar_hit {d : Int} {ss all : List ByteArray} {k : Nat} {t : ByteArray} (hk : k < all.length) (e : all[k] = t) (h : nearB ss t d = false) : firstFar d ss (all.drop k) = some t := by
  rw [List.drop_eq_getElem_cons hk, e]; unfold firstFar; rw [List.find?_cons]; simp [h]
theorem firstFar_miss {d : Int} {ss all : List ByteArray} {k : Nat} {t : ByteArray} (hk : k < all.length) (e : all[k] = t) (h : nearB ss t d = true) : firstFar d ss (all.drop k) = firstFar d ss (all.drop (k + 1)) := by
  rw [List.drop_eq_getElem_cons hk, e]; unfold firstFar; rw [List.find?_cons]; simp [h]
theorem firstFar_end {d : Int} {ss all : List ByteArray} : firstFar d ss (all.drop all.length) = none := by rw [List.drop_length]; rfl
/-- The length of the first address. -/
def lenA (ss : List ByteArray) : Nat := (ss.getD 0 ByteArray.empty).size
def addAns (g : Int) (ss : List ByteArray) (d : Int) : List ByteArray × Int :=
  if okB g (bls ss) = true then (if 1 ≤ d ∧ d ≤ 8 then (if ss.length = 0 then ([], 6) else (if 40 ≤ ss.length ∨ 300 < g.toNat ^ lenA ss then ([], 5) else (match firstFar d ss (bas (allW g.toNat (lenA ss))) with | some t => (ss ++ [t], 0) | none => ([], 3)))) else ([], 2)) else ([], 1)
theorem addAns_len (g : Int) (ss : List ByteArray) (d : Int) (h : ss.length ≤ 1048576) : (addAns g ss d).1.length ≤ 1048576 := by
  unfold addAns
  split
  · split
    · split
      · simp
      · split
        · simp
        · rename_i h4
          split
          · rw [List.length_append]; simp; omega
          · simp
    · simp
  · simp
theorem addAns_bad {g : Int} {ss : List ByteArray} {d : Int} (h : okB g (bls ss) = false) : addAns g ss d = ([], 1) := by unfold addAns; rw [if_neg (by rw [h]; simp)]
theorem addAns_range {g : Int} {ss : List ByteArray} {d : Int} (h : okB g (bls ss) = true) (h2 : ¬ (1 ≤ d ∧ d ≤ 8)) : addAns g ss d = ([], 2) := by unfold addAns; rw [if_pos h, if_neg h2]
theorem addAns_none {g : Int} {ss : List ByteArray} {d : Int} (h : okB g (bls ss) = true) (h2 : 1 ≤ d ∧ d ≤ 8) (h3 : ss.length = 0) : addAns g ss d = ([], 6) := by unfold addAns; rw [if_pos h, if_pos h2, if_pos h3]
theorem addAns_full {g : Int} {ss : List ByteArray} {d : Int} (h : okB g (bls ss) = true) (h2 : 1 ≤ d ∧ d ≤ 8) (h3 : ¬ ss.length = 0) (h4 : 40 ≤ ss.length ∨ 300 < g.toNat ^ lenA ss) : addAns g ss d = ([], 5) := by unfold addAns; rw [if_pos h, if_pos h2, if_neg h3, if_pos h4]
theorem addAns_found {g : Int} {ss : List ByteArray} {d : Int} {t : ByteArray} (h : okB g (bls ss) = true) (h2 : 1 ≤ d ∧ d ≤ 8) (h3 : ¬ ss.length = 0) (h4 : ¬ (40 ≤ ss.length ∨ 300 < g.toNat ^ lenA ss)) (h5 : firstFar d ss (bas (allW g.toNat (lenA ss))) = some t) : addAns g ss d = (ss ++ [t], 0) := by unfold addAns; rw [if_pos h, if_pos h2, if_neg h3, if_neg h4, h5]
theorem addAns_lost {g : Int} {ss : List ByteArray} {d : Int} (h : okB g (bls ss) = true) (h2 : 1 ≤ d ∧ d ≤ 8) (h3 : ¬ ss.length = 0) (h4 : ¬ (40 ≤ ss.length ∨ 300 < g.toNat ^ lenA ss)) (h5 : firstFar d ss (bas (allW g.toNat (lenA ss))) = none) : addAns g ss d = ([], 3) := by unfold addAns; rw [if_pos h, if_pos h2, if_neg h3, if_neg h4, h5]
theorem ok_parts {g : Int} {ss : List ByteArray} (h : okB g (bls ss) = true) : 2 ≤ g ∧ g ≤ 4 ∧ ss.length ≤ 40 := by
  have h := (of_decide_eq_true h).1
  rwa [bls_length] at h
theorem ok_first {g : Int} {ss : List ByteArray} (h : okB g (bls ss) = true) (h0 : 0 < ss.length) : 1 ≤ lenA ss ∧ lenA ss ≤ 8 ∧ ∀ s ∈ ss, s.size = lenA ss := by
  have h := of_decide_eq_true h
  have e : lenA ss = (ss[0]).size := by unfold lenA; rw [List.getD_eq_getElem?_getD, List.getElem?_eq_getElem h0]; rfl
  have h1 := h.word 0 (by rw [bls_length]; omega)
  rw [bls_get _ 0 h0] at h1
  refine ⟨by have := h1.1; rw [bl_length] at this; omega, by have := h1.2.1; rw [bl_length] at this; omega, fun s hs => ?_⟩
  obtain ⟨i, hi, rfl⟩ := List.getElem_of_mem hs
  have h2 := h.len i (by rw [bls_length]; exact hi)
  rw [bls_get _ _ hi, bls_get _ 0 h0, bl_length, bl_length] at h2
  omega

theorem clone_any (b off n c : Nat) (ss : List ByteArray) (w : World) (hn : Hid (ss.length = n)) (hm : n ≤ 1048576) (hc : ∀ i (h : i < ss.length), w.cell? ⟨b, off + i, none⟩ = some (.string ss[i])) :
    Calls Tryd.prog 79 #[.slice (some ⟨b, off, none⟩) n c] w fun e w' => ∃ v', e = .returned v' ∧ w'.ownsRow w.heap.size 9 1 v' n (ss.map Value.string) ∧ Below w.heap.size w w' := by
  have e := hn.out
  subst e
  refine (Any.slices_Clone_string Tryd.lays2_16 b off ss.length c ss w (Nat.le_refl _) (by omega) (fun j hj => by rw [hc j hj, List.getD_eq_getElem?_getD, List.getElem?_eq_getElem hj]; rfl)).mono ?_
  rintro e w' ⟨v', rfl, h1, _, h3⟩
  rw [List.take_length] at h1
  exact ⟨v', rfl, h1, h3⟩
theorem getD0 {ss : List ByteArray} {t0 : ByteArray} (h0 : 0 < ss.length) (e : ss[0] = t0) : lenA ss = t0.size := by
  unfold lenA; rw [List.getD_eq_getElem?_getD, List.getElem?_eq_getElem h0]; exact congrArg _ e

theorem bas_each {g r : Nat} : ∀ s ∈ bas (allW g r), s.size = r := by
  intro s hs
  obtain ⟨l, hl, rfl⟩ := List.mem_map.1 hs
  have := allW_each r l hl
  simpa [ByteArray.size] using this
theorem row_cellG {w : World} {g n cap lo : Nat} {e : TypeId} {ns : List ByteArray} (h : w.ownsRow lo e 1 (.slice (some ⟨g, 0, none⟩) n cap) n (ns.map Value.string)) (i : Nat) (hi : i < ns.length) : w.cell? ⟨g, i, none⟩ = some (.string ns[i]) := by
  have := h.cells (g := g) rfl i _ (strs_cell ns i hi)
  rw [Addr.add_lit, Nat.zero_add] at this
  exact this
theorem one_strG (s : ByteArray) : ∀ u ∈ [Value.string s], u.oneCell' = true := by intro u hu; simp at hu; subst hu; rfl

set_option maxRecDepth 100000 in
set_option maxHeartbeats 8000000 in
theorem implAdd_any (g : Int) (a : Option Addr) (ss : List ByteArray) (n ca : Nat) (d : Int) (w : World) (hn : Hid (ss.length = n)) (ha : RS w a ss) (hmax : n ≤ 1048576) (hcap : n ≤ ca) (hcm : ca ≤ 9223372036854775807) (hsz : Hid (∀ s ∈ ss, s.size ≤ 1048576)) :
    Calls Tryd.prog 35 #[.int .i64 g, .slice a n ca, .int .i64 d] w (GivesLS (addAns g ss d) w) := by
  have HV := implValid_any g a ss n ca w hn ha hmax hcap hcm hsz
  have HI : Hid (∃ i0 : TypeInfo, Tryd.prog.info? 9 = some i0 ∧ i0.zero = some (.string ByteArray.empty) ∧ i0.size = 1 ∧ i0.bytes = 16) := info_parts info9
  cases ho : okB g (bls ss) with
  | false =>
    have HR := Lib.hid (addAns_bad (d := d) ho)
    rw [ho] at HV
    clear ha
    go_enter Tryd.func35, Tryd.ntmps35
    go_wp2_with (first | (go_at_call 23; refine HV.mono ?_; rintro e w1 ⟨rfl, hb1⟩))
    exact bodyPost_ret (v := .tuple #[.slice none 0 0, .int .i64 1]) (by simp [results, Tryd.results35, go_sem]) rfl (givesLS_nil HR.out hb1)
  | true =>
    rw [ho] at HV
    by_cases hd : 1 ≤ d ∧ d ≤ 8
    · have id := inB_of hd
      by_cases h0 : n = 0
      · have HR := Lib.hid (addAns_none ho hd (by rw [hn.out]; exact h0))
        have hn0 : ((n : Int) == 0) = true := by simp [h0]
        have HZ := Lib.hid h0
        clear ha hd h0
        go_enter Tryd.func35, Tryd.ntmps35
        go_wp2_with (first | (go_at_call 23; refine HV.mono ?_; rintro e w1 ⟨rfl, hb1⟩) | (go_at_call 64; refine (isWithin_any _ _ _ _).mono ?_; rintro e w' ⟨rfl, rfl⟩))
        exact bodyPost_ret (v := .tuple #[.slice none 0 0, .int .i64 6]) (by simp [results, Tryd.results35, go_sem]) rfl (givesLS_nil HR.out hb1)
      · obtain ⟨p1, p2, p3⟩ := ok_parts ho
        have h0l : 0 < ss.length := by rw [hn.out]; omega
        obtain ⟨l1, l8, hle⟩ := ok_first ho h0l
        obtain ⟨gn, rfl⟩ : ∃ gn : Nat, g = gn := ⟨g.toNat, by omega⟩
        obtain ⟨b, off, rfl, hb, hc⟩ := ha.addr h0l
        have HC : Hid (∀ W, Below w.heap.size w W → ∀ i (h : i < ss.length), W.cell? ⟨b, off + i, none⟩ = some (.string ss[i])) := fun W hB i h => (hB.cell (p := ⟨b, off + i, none⟩) hb).trans (hc i h)
        obtain ⟨t0, ht0⟩ : ∃ t0, ss[0] = t0 := ⟨_, rfl⟩
        have HLA := Lib.hid (getD0 h0l ht0)
        have HZ0 : Hid (∀ W, Below w.heap.size w W → W.cell? ⟨b, off, none⟩ = some (.string t0)) := fun W hB => by have := HC.out W hB 0 h0l; rw [ht0, Nat.add_zero] at this; exact this
        have HA : Hid (∀ W, Below w.heap.size w W → RS W (some ⟨b, off, none⟩) ss) := fun W hB => ha.below hB
        have hn40 : n ≤ 40 := by rw [← hn.out]; exact p3
        have hn0 : ((n : Int) == 0) = false := by simp; omega
        have hnp : (0 : Int) < (n : Int) := by omega
        have HLE := Lib.hid hle
        clear ha hc ht0 hle
        rw [HLA.out] at l1 l8
        have hs8 : t0.size ≤ 8 := l8
        have HK := fun W => newKind_any (gn : Int) (t0.size : Int) d W
        have HCT := fun W => count_any gn t0.size (by omega) (by omega) l8 W
        by_cases hf : 40 ≤ n ∨ 300 < gn ^ t0.size
        · have HR := Lib.hid (addAns_full ho hd (by rw [hn.out]; exact h0) (by rw [hn.out, HLA.out, Int.toNat_natCast]; exact hf))
          by_cases h40 : n = 40
          · have e40 : ((n : Int) == 40) = true := by simp; omega
            clear hd hf h0 h40 HC HLE
            go_enter Tryd.func35, Tryd.ntmps35
            go_wp2_with (first | (go_at_call 23; refine HV.mono ?_; rintro e w1 ⟨rfl, hb1⟩; have z1 := HZ0.out w1 hb1) | (go_at_call 64; refine (isWithin_any _ _ _ _).mono ?_; rintro e w' ⟨rfl, rfl⟩) | (go_at_call 67; refine (HK _).mono ?_; rintro e w2 ⟨rfl, hb2⟩))
            exact bodyPost_ret (v := .tuple #[.slice none 0 0, .int .i64 5]) (by simp [results, Tryd.results35, go_sem]) rfl (givesLS_nil HR.out (two_worlds' hb1 (two_worlds' hb2 (by repeat (first | exact Below.refl _ _ | refine Below.alloc ?_ (by simp; try omega) _ | refine Below.setCell ?_ (by simp; try omega) _)))))
          · have e40 : ((n : Int) == 40) = false := by simp; omega
            have hbig : (300 : Int) < ((gn ^ t0.size : Nat) : Int) := by omega
            generalize ((gn ^ t0.size : Nat) : Int) = p at HCT hbig
            clear hd hf h0 h40 HC HLE
            go_enter Tryd.func35, Tryd.ntmps35
            go_wp2_with (first | (go_at_call 23; refine HV.mono ?_; rintro e w1 ⟨rfl, hb1⟩; have z1 := HZ0.out w1 hb1) | (go_at_call 64; refine (isWithin_any _ _ _ _).mono ?_; rintro e w' ⟨rfl, rfl⟩) | (go_at_call 67; refine (HK _).mono ?_; rintro e w2 ⟨rfl, hb2⟩) | (go_at_call 76; refine (HCT _).mono ?_; rintro e w3 ⟨rfl, hb3⟩; have k0 := (hb3.cell (p := ⟨w2.heap.size, 0, none⟩) (by simp)); have k1 := (hb3.cell (p := ⟨w2.heap.size, 1, none⟩) (by simp)); have k2 := (hb3.cell (p := ⟨w2.heap.size, 2, none⟩) (by simp)); simp [go_sem] at k0 k1 k2))
            exact bodyPost_ret (v := .tuple #[.slice none 0 0, .int .i64 5]) (by simp [results, Tryd.results35, go_sem]) rfl (givesLS_nil HR.out (two_worlds' hb1 (two_worlds' hb2 (Below.trans (by repeat (first | exact Below.refl _ _ | refine Below.alloc ?_ (by simp; try omega) _ | refine Below.setCell ?_ (by simp; try omega) _)) (hb3.mono (by simp))))))
        · have hg300 : gn ^ t0.size ≤ 300 := by omega
          have e40 : ((n : Int) == 40) = false := by simp; omega
          have HWD := fun W => words_any gn t0.size (by omega) (by omega) l8 hg300 W
          have HFO : Hid (∀ t, firstFar d ss (bas (allW gn t0.size)) = some t → addAns gn ss d = (ss ++ [t], 0)) := fun t ht => addAns_found ho hd (by rw [hn.out]; exact h0) (by rw [hn.out, HLA.out, Int.toNat_natCast]; exact hf) (by rw [HLA.out, Int.toNat_natCast]; exact ht)
          have HLO : Hid (firstFar d ss (bas (allW gn t0.size)) = none → addAns gn ss d = ([], 3)) := fun ht => addAns_lost ho hd (by rw [hn.out]; exact h0) (by rw [hn.out, HLA.out, Int.toNat_natCast]; exact hf) (by rw [HLA.out, Int.toNat_natCast]; exact ht)
          have HN : Hid ((bas (allW gn t0.size)).length = gn ^ t0.size) := by unfold Hid; rw [bas_length, allW_length (by omega)]
          have HEA : Hid (∀ s ∈ bas (allW gn t0.size), s.size = t0.size) := bas_each
          have hsm : ¬ (300 : Int) < ((gn ^ t0.size : Nat) : Int) := by omega
          generalize addAns (gn : Int) ss d = R at HFO HLO
          generalize bas (allW gn t0.size) = all at HWD HFO HLO HN HEA
          generalize gn ^ t0.size = N at HCT hsm hg300 HWD HN
          clear hd hf h0
          go_enter Tryd.func35, Tryd.ntmps35
          go_wp2_with (first | (go_at_call 23; refine HV.mono ?_; rintro e w1 ⟨rfl, hb1⟩; have z1 := HZ0.out w1 hb1) | (go_at_call 64; refine (isWithin_any _ _ _ _).mono ?_; rintro e w' ⟨rfl, rfl⟩) | (go_at_call 67; refine (HK _).mono ?_; rintro e w2 ⟨rfl, hb2⟩) | (go_at_call 76; refine (HCT _).mono ?_; rintro e w3 ⟨rfl, hb3⟩; have k0 := (hb3.cell (p := ⟨w2.heap.size, 0, none⟩) (by simp)); have k1 := (hb3.cell (p := ⟨w2.heap.size, 1, none⟩) (by simp)); have k2 := (hb3.cell (p := ⟨w2.heap.size, 2, none⟩) (by simp)); simp [go_sem] at k0 k1 k2) | (go_at_call 69; refine (HWD _).mono ?_; rintro e w4 ⟨ga, cga, rfl, hb4, ho4⟩))
          have B23 : Below w2.heap.size w2 w3 := Below.trans (by repeat (first | exact Below.refl _ _ | refine Below.alloc ?_ (by simp; try omega) _ | refine Below.setCell ?_ (by simp; try omega) _)) (hb3.mono (by simp))
          have HKB : Hid (w2.heap.size < w3.heap.size) := World.block_lt_of_cell? w3 _ k0
          have B3 := two_worlds' hb1 (two_worlds' hb2 B23)
          have HB1 := Lib.hid (two_worlds' B3 hb4)
          have HO1 := Lib.hid (own_lower ho4 (show w.heap.size ≤ w3.heap.size from B3.size))
          have HK4 : Hid (w2.heap.size < w4.heap.size) := Nat.lt_of_lt_of_le HKB.out hb4.size
          have K0 := Lib.hid ((hb4.cell (p := ⟨w2.heap.size, 0, none⟩) HKB.out).trans k0)
          have K1 := Lib.hid ((hb4.cell (p := ⟨w2.heap.size, 1, none⟩) HKB.out).trans k1)
          have K2 := Lib.hid ((hb4.cell (p := ⟨w2.heap.size, 2, none⟩) HKB.out).trans k2)
          clear hb1 hb2 hb3 hb4 ho4 B23 HKB B3 k0 k1 k2 z1 HCT HK HWD
          go_loopw [44] (fun iv wr => ∃ i : Nat, i ≤ N ∧ iv = .int .i64 (i : Int) ∧ Hid (Below w4.heap.size w4 wr) ∧ Hid (firstFar d ss all = firstFar d ss (all.drop i))) (fun iv _ => N - (intOf iv).toNat)
          case atStart => exact ⟨0, by omega, rfl, Below.refl _ _, firstFar_drop d ss all⟩
          case round =>
            obtain ⟨i, hi, rfl, HB2, HFF⟩ := hrel
            have HBW : Hid (Below w.heap.size w wr) := two_worlds' HB1.out HB2.out
            by_cases hlt : i < N
            · have hia : i < all.length := by rw [HN.out]; exact hlt
              have hgl := (HO1.out.lt ga rfl).2
              obtain ⟨t, ht⟩ : ∃ t, all[i] = t := ⟨_, rfl⟩
              have HT := Lib.hid ht
              have x1 := row_cellG HO1.out i hia
              rw [ht, ← HB2.out.cell (p := ⟨ga, i, none⟩) hgl] at x1
              have k0 := (HB2.out.cell (p := ⟨w2.heap.size, 0, none⟩) HK4.out).trans K0.out
              have k1 := (HB2.out.cell (p := ⟨w2.heap.size, 1, none⟩) HK4.out).trans K1.out
              have k2 := (HB2.out.cell (p := ⟨w2.heap.size, 2, none⟩) HK4.out).trans K2.out
              have hts : t.size = t0.size := by rw [← ht]; exact HEA.out _ (List.getElem_mem _)
              have HFT := fits_any (gn : Int) (t0.size : Int) d (some ⟨b, off, none⟩) ss n ca t wr hn (HA.out wr HBW.out) hmax (by omega) (fun u hu => by rw [hts, ← HLA.out]; exact HLE.out u hu)
              have hk0 : (0 : Int) ≤ (i : Int) := by omega
              have hk1 : (i : Int) < (N : Int) := by omega
              clear ht
              cases hnr : nearB ss t d with
              | true =>
                have HE : Hid (firstFar d ss all = firstFar d ss (all.drop (i + 1))) := HFF.out.trans (firstFar_miss hia HT.out hnr)
                rw [hnr] at HFT
                go_wp2_with (first | (go_at_call 70; refine HFT.mono ?_; rintro e w5 ⟨rfl, hb5⟩))
                have B5 : Hid (Below w4.heap.size w4 w5) := two_worlds' HB2.out hb5
                clear hb5
                go_roundw
                case rel => exact ⟨i + 1, by omega, by go_num, B5.out, HE.out⟩
                case measure => simp [intOf]; omega
              | false =>
                have HE : Hid (R = (ss ++ [t], 0)) := HFO.out t (HFF.out.trans (firstFar_hit hia HT.out hnr))
                rw [hnr] at HFT
                go_wp2_with fail
                refine HFT.mono ?_
                rintro e w5 ⟨rfl, hb5⟩
                have B5 : Hid (Below w.heap.size w w5) := two_worlds' HBW.out hb5
                clear hb5 k0 k1 k2 x1
                go_wp2_with fail
                refine (clone_any b off n ca ss _ hn hmax (HC.out _ B5.out)).mono ?_
                rintro e w6 ⟨v6, rfl, ho6, hb6⟩
                have HO6 := Lib.hid ho6
                have B6 : Hid (Below w.heap.size w w6) := two_worlds' B5.out hb6
                have HS6 : Hid (w5.heap.size ≤ w6.heap.size ∧ w.heap.size ≤ w5.heap.size) := ⟨hb6.size, B5.out.size⟩
                have HGE : Hid (∀ q, v6.ownBlock = some q → w5.heap.size ≤ q) := fun q hq => (ho6.lt q hq).1
                clear ho6 hb6
                go_wp2_with (first | (at_builtin; refine wpList_append_lies _ rfl _ _ 24 rfl w5.heap.size 9 HI.out.choose (.string ByteArray.empty) 1 16 Tryd.underlying24 HI.out.choose_spec.1 HI.out.choose_spec.2.1 HI.out.choose_spec.2.2.1 HI.out.choose_spec.2.2.2 rfl (by decide) v6 n (ss.map Value.string) rfl (HO6.out.alloc _) ⟨w6.heap.size, 0, none⟩ 1 1 [.string t] rfl rfl (news_oneS w6 _ _) (one_strG _) (by omega) (by unfold maxLen; omega) (by omega) (by simp; have := HS6.out.1; omega) _ rfl ?_))
                intro g' cap' w7 hown1 hgrow hat hlt2
                have B7 : Hid (Below w.heap.size w w7) := (B6.out.alloc B6.out.size _).grown hgrow (by have := B6.out.size; simp; omega) (fun q hq => by have := HGE.out q hq; have := HS6.out.2; omega)
                have O7 : Hid (w7.ownsRow w.heap.size 9 1 (.slice (some ⟨g', 0, none⟩) (n + 1) cap') (n + 1) ((ss ++ [t]).map Value.string)) := by
                  unfold Hid; rw [List.map_append]; exact own_lower hown1 HS6.out.2
                have M7 : Hid ((ss ++ [t]).length = n + 1) := by unfold Hid; rw [List.length_append, hn.out]; rfl
                clear hown1 hgrow hat hlt2
                go_wp2
                exact bodyPost_ret (v := .tuple #[.slice (some ⟨g', 0, none⟩) (n + 1) cap', .int .i64 0]) (by simp [results, Tryd.results35, go_sem]) rfl (givesLS_of HE.out B7.out M7.out O7.out)
            · have hin : i = N := by omega
              have HE : Hid (R = ([], 3)) := HLO.out (by rw [HFF.out, hin, ← HN.out]; exact firstFar_end)
              go_wp2
              exact bodyPost_ret (v := .tuple #[.slice none 0 0, .int .i64 3]) (by simp [results, Tryd.results35, go_sem]) rfl (givesLS_nil HE.out HBW.out)
    · have id := inB_no hd
      have HR := Lib.hid (addAns_range ho hd)
      clear ha hd
      go_enter Tryd.func35, Tryd.ntmps35
      go_wp2_with (first | (go_at_call 23; refine HV.mono ?_; rintro e w1 ⟨rfl, hb1⟩) | (go_at_call 64; refine (isWithin_any _ _ _ _).mono ?_; rintro e w' ⟨rfl, rfl⟩))
      exact bodyPost_ret (v := .tuple #[.slice none 0 0, .int .i64 2]) (by simp [results, Tryd.results35, go_sem]) rfl (givesLS_nil HR.out hb1)
end Go.Proofs.YtpkkibnpjhlfmaaDoor
