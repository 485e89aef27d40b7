/-
  MostAddresses: the far words of all words.
-/
import Derived.Test.YtpkkibnpjhlfmaaDoorMostExt
import Derived.Test.YtpkkibnpjhlfmaaDoorGreedyCode
import Derived.Test.YtpkkibnpjhlfmaaDoorByDist
import Derived.Deep.RegionLaw
namespace Go.Proofs.YtpkkibnpjhlfmaaDoor
open Go.RowKit

/-- The first n words that are far enough from a word. -/
def farM (ss : List ByteArray) (d : Int) (i n : Nat) : Nat := setN (fun j => !nearB [ss.getD j ByteArray.empty] (ss.getD i ByteArray.empty) d) n
def rowV (ss : List ByteArray) (d : Int) (N i j k : Nat) : Value := .int .u64 ((farM ss d k (if k < i then N else if k = i then j else 0) : Nat) : Int)
def rowsV (ss : List ByteArray) (d : Int) (N i j : Nat) : List Value := (List.range N).map (rowV ss d N i j)
theorem rowsV_at {ss : List ByteArray} {d : Int} {N i j k : Nat} (h : k < N) : (rowsV ss d N i j)[k]? = some (rowV ss d N i j k) := by
  unfold rowsV
  rw [List.getElem?_map, List.getElem?_range h]; rfl
theorem rowsV_cell {w : World} {g : Nat} {e : TypeId} {ss : List ByteArray} {d : Int} {N i j k : Nat} (hg : w.heap[g]? = some (.cells (rowsV ss d N i j).toArray e (0, 0))) (h : k < N) : w.cell? ⟨g, k, none⟩ = some (rowV ss d N i j k) := by
  rw [cell_of_row w g k _ _ _ hg, List.getElem?_toArray, rowsV_at h]
theorem rowsV_next {ss : List ByteArray} {d : Int} {N i j : Nat} : (rowsV ss d N i j).toArray.setIfInBounds i (.int .u64 ((farM ss d i (j + 1) : Nat) : Int)) = (rowsV ss d N i (j + 1)).toArray := by
  apply Array.ext_getElem?
  intro k
  rw [Array.getElem?_setIfInBounds]
  by_cases hk : k < N
  · by_cases e : i = k
    · subst e
      simp [rowsV, hk, rowV]
    · rw [if_neg e, List.getElem?_toArray, List.getElem?_toArray, rowsV_at hk, rowsV_at hk]
      unfold rowV
      by_cases h1 : k < i
      · rw [if_pos h1, if_pos h1]
      · rw [if_neg h1, if_neg h1, if_neg (fun h => e h.symm), if_neg (fun h => e h.symm)]
  · have h1 : (rowsV ss d N i j).length = N := by simp [rowsV]
    have h2 : (rowsV ss d N i (j + 1)).length = N := by simp [rowsV]
    have e1 : (rowsV ss d N i (j + 1)).toArray[k]? = none := Array.getElem?_eq_none (by simp; omega)
    rw [e1]
    split
    · simp; omega
    · exact Array.getElem?_eq_none (by simp; omega)
theorem farM_skip {ss : List ByteArray} {d : Int} {i j : Nat} (h : (!nearB [ss.getD j ByteArray.empty] (ss.getD i ByteArray.empty) d) = false) : farM ss d i (j + 1) = farM ss d i j := by
  unfold farM; simp only [setN]; rw [if_neg (by rw [h]; simp)]; omega
theorem farM_take {ss : List ByteArray} {d : Int} {i j : Nat} (h : (!nearB [ss.getD j ByteArray.empty] (ss.getD i ByteArray.empty) d) = true) : farM ss d i j ||| 2 ^ j = farM ss d i (j + 1) := by
  unfold farM; rw [setN_or]; simp only [setN]; rw [if_pos h]
theorem farM_zero (ss : List ByteArray) (d : Int) (i : Nat) : farM ss d i 0 = 0 := rfl
theorem rowsV_skip {ss : List ByteArray} {d : Int} {N i j : Nat} (h : farM ss d i (j + 1) = farM ss d i j) : rowsV ss d N i (j + 1) = rowsV ss d N i j := by
  unfold rowsV
  refine List.map_congr_left fun k _ => ?_
  unfold rowV
  by_cases h1 : k < i
  · rw [if_pos h1, if_pos h1]
  · rw [if_neg h1, if_neg h1]
    by_cases h2 : k = i
    · subst h2; rw [if_pos rfl, if_pos rfl, h]
    · rw [if_neg h2, if_neg h2]
theorem rowsV_row (ss : List ByteArray) (d : Int) (N i : Nat) : rowsV ss d N (i + 1) 0 = rowsV ss d N i N := by
  unfold rowsV
  refine List.map_congr_left fun k _ => ?_
  unfold rowV
  by_cases h1 : k < i
  · rw [if_pos h1, if_pos (by omega)]
  · by_cases h2 : k = i
    · subst h2; rw [if_pos (by omega), if_neg h1, if_pos rfl]
    · rw [if_neg (by omega), if_neg h1, if_neg h2]
      split <;> rfl
theorem farM_lt (ss : List ByteArray) (d : Int) (i n : Nat) (h : n ≤ 32) : farM ss d i n < 4294967296 :=
  Nat.lt_of_lt_of_le (setN_lt _ n) (Nat.pow_le_pow_right (n := 2) (by omega) h)
theorem made_zero (ss : List ByteArray) (d : Int) (N : Nat) : madeCells (Value.cells (.int .u64 0)) (N * 1) = (rowsV ss d N 0 0).toArray := by
  apply Array.ext_getElem?
  intro k
  unfold madeCells
  rw [Array.getElem?_map]
  by_cases hk : k < N
  · have e1 : (rowsV ss d N 0 0).toArray[k]? = some (rowV ss d N 0 0 k) := by rw [List.getElem?_toArray, rowsV_at hk]
    rw [e1]
    have e : rowV ss d N 0 0 k = .int .u64 0 := by
      unfold rowV
      rw [if_neg (by omega)]
      split <;> rfl
    rw [e]
    simp [Value.cells, hk, Nat.mod_one]
  · have h1 : (rowsV ss d N 0 0).length = N := by simp [rowsV]
    rw [Array.getElem?_eq_none (by simp; omega), Array.getElem?_eq_none (by simp; omega)]
    rfl
theorem rowV_self (ss : List ByteArray) (d : Int) (N i j : Nat) : rowV ss d N i j i = .int .u64 ((farM ss d i j : Nat) : Int) := by
  unfold rowV; rw [if_neg (by omega), if_pos rfl]
theorem infoWS : (Tryd.prog.info? 62).map (fun i => (i.zero, i.size, i.bytes)) = some (some (.int .u64 0), 1, 8) := by kernel_rfl

set_option maxRecDepth 100000 in
set_option maxHeartbeats 8000000 in
theorem farWords_any (g r : Nat) (d : Int) (hg2 : 2 ≤ g) (hg4 : g ≤ 4) (hr : r ≤ 8) (hlen : g ^ r ≤ 32) (w : World) :
    Calls Tryd.prog 74 #[.agg #[.int .i64 (g : Int), .int .i64 (r : Int), .int .i64 d]] w fun e w' => ∃ fb, e = .returned (.slice (some ⟨fb, 0, none⟩) (g ^ r) (g ^ r)) ∧ w.heap.size ≤ fb ∧ fb < w'.heap.size ∧ Below w.heap.size w w' ∧ Hid (∀ i, i < g ^ r → w'.cell? ⟨fb, i, none⟩ = some (.int .u64 ((farM (bas (allW g r)) d i (g ^ r) : Nat) : Int))) := by
  have HWD := fun W => words_any g r hg2 hg4 hr (by omega) W
  have HEA : Hid (∀ s ∈ bas (allW g r), s.size = r) := bas_eachC
  have HN : Hid ((bas (allW g r)).length = g ^ r) := by unfold Hid; rw [bas_length, allW_length (by omega)]
  generalize bas (allW g r) = all at HWD HEA HN ⊢
  obtain ⟨N, hNN⟩ : ∃ N, g ^ r = N := ⟨_, rfl⟩
  rw [hNN] at HWD HN hlen ⊢
  clear hNN
  obtain ⟨i0, hi, hz0, hz1, hz2⟩ := info_parts infoWS
  have hmk := run_make_rowN (P := Tryd.prog) 73 62 i0 _ Tryd.underlying73 hi hz0 .i64 .i64 N N (Nat.le_refl _) (by rw [hz2]; omega) (by omega)
  rw [hz1, made_zero all d N] at hmk
  clear hi hz0 hz1 hz2
  go_enter Tryd.func74, Tryd.ntmps74
  go_wp2_with (first | (go_at_call 69; refine (HWD _).mono ?_; rintro e w2 ⟨ga, cga, rfl, hb2, ho2⟩))
  have hbx := hb2.size
  simp at hbx
  have HP : Hid (w2.heap[w.heap.size]? = some (.cells #[.int .i64 (g : Int), .int .i64 (r : Int), .int .i64 d] 83 (0, 0))) := (hb2.block _ (by simp)).trans (heap_alloc_new w _)
  have HB2 : Hid (Below w.heap.size w w2) := Below.trans (show Below w.heap.size w (w.alloc _) from (by repeat (first | exact Below.refl _ _ | refine Below.alloc ?_ (by simp; try omega) _ | refine Below.setCell ?_ (by simp; try omega) _))) (hb2.mono (by simp))
  have HO := Lib.hid ho2
  have hga := (ho2.lt ga rfl).2
  clear hb2 ho2 hmk
  go_loopw [17] (fun iv wr => ∃ i : Nat, i ≤ N ∧ iv = .int .i64 (i : Int) ∧ Hid (Below w2.heap.size w2 wr) ∧ Hid (wr.heap[w2.heap.size]? = some (.cells (rowsV all d N i 0).toArray 62 (0, 0)))) (fun iv _ => N - (intOf iv).toNat)
  case atStart => exact ⟨0, by omega, rfl, (Below.refl _ _).alloc (Nat.le_refl _) _, heap_alloc_new w2 _⟩
  case round =>
    obtain ⟨i, hi, rfl, HB, HG⟩ := hrel
    by_cases hlt : i < N
    · have hia : i < all.length := by rw [HN.out]; exact hlt
      have x1 := row_cell HO.out i hia
      rw [← HB.out.cell (p := ⟨ga, i, none⟩) hga] at x1
      have hts := HEA.out _ (List.getElem_mem hia)
      have HWI : Hid (all.getD i ByteArray.empty = all[i]) := by unfold Hid; rw [List.getD_eq_getElem?_getD, List.getElem?_eq_getElem hia]; rfl
      generalize all[i] = t at x1 hts HWI
      have hk0 : (0 : Int) ≤ (i : Int) := by omega
      have hk1 : (i : Int) < (N : Int) := by omega
      go_wp2
      go_loopw [24] (fun jv wx => ∃ j : Nat, j ≤ N ∧ jv = .int .i64 (j : Int) ∧ Hid (Below w2.heap.size w2 wx) ∧ Hid (wx.heap[w2.heap.size]? = some (.cells (rowsV all d N i j).toArray 62 (0, 0)))) (fun jv _ => N - (intOf jv).toNat)
      case atStart => exact ⟨0, by omega, rfl, HB.out, HG.out⟩
      case round =>
        obtain ⟨j, hj, rfl, HB3, HG3⟩ := hrel
        by_cases hltj : j < N
        · have hja : j < all.length := by rw [HN.out]; exact hltj
          have y1 := row_cell HO.out j hja
          rw [← HB3.out.cell (p := ⟨ga, j, none⟩) hga] at y1
          have hus := HEA.out _ (List.getElem_mem hja)
          have HWJ : Hid (all.getD j ByteArray.empty = all[j]) := by unfold Hid; rw [List.getD_eq_getElem?_getD, List.getElem?_eq_getElem hja]; rfl
          generalize all[j] = u at y1 hus HWJ
          have hj0 : (0 : Int) ≤ (j : Int) := by omega
          have hj1 : (j : Int) < (N : Int) := by omega
          have hq := (HB3.out.block w.heap.size (by omega)).trans HP.out
          have p0 := cell_of_row wr w.heap.size 0 _ _ _ hq
          have p1 := cell_of_row wr w.heap.size 1 _ _ _ hq
          have p2 := cell_of_row wr w.heap.size 2 _ _ _ hq
          simp only [List.getElem?_toArray, List.getElem?_cons_zero, List.getElem?_cons_succ] at p0 p1 p2
          have hwr : w2.heap.size < wr.heap.size := (Array.getElem?_eq_some_iff.1 HG3.out).1
          have HFT := fun W hR => fits_any (g : Int) (r : Int) d (some ⟨wr.heap.size, 0, none⟩) [u] 1 1 t W rfl hR (by omega) (by omega) (fun s hs => by simp at hs; rw [hs, hus, hts])
          have HRS : Hid (RS (wr.alloc (.cells #[.string u] 9)) (some ⟨wr.heap.size, 0, none⟩) [u]) := .inr ⟨_, 0, rfl, fun i hi => by
            have : i = 0 := by simp at hi; omega
            subst this
            rw [cell_of_row _ _ _ _ _ _ (heap_alloc_new wr _)]; rfl⟩
          clear hq
          cases hfit : (!nearB [u] t d) with
          | true =>
            have HTK := Lib.hid (farM_take (ss := all) (d := d) (i := i) (j := j) (by rw [HWI.out, HWJ.out]; exact hfit))
            rw [hfit] at HFT
            have y2 := rowsV_cell HG3.out hlt
            rw [rowV_self] at y2
            have z2 := frozen_of_row wr w2.heap.size i _ _ HG3.out
            have hor := or_u64 (farM all d i j) j (by have := farM_lt all d i j (by omega); omega) (by omega)
            rw [HTK.out] at hor
            go_wp2_with (first | (go_at_call 70; refine (HFT _ HRS.out).mono ?_; rintro e w5 ⟨rfl, hb5⟩; have B5 := Lib.hid (Below.trans (show Below wr.heap.size wr (wr.alloc _) from (by repeat (first | exact Below.refl _ _ | refine Below.alloc ?_ (by simp; try omega) _ | refine Below.setCell ?_ (by simp; try omega) _))) (hb5.mono (by simp))); have y5 := (B5.out.cell (p := ⟨w2.heap.size, i, none⟩) hwr).trans y2; have z5 := (B5.out.frozen (p := ⟨w2.heap.size, i, none⟩) hwr).trans z2))
            have G5 : Hid (w5.heap[w2.heap.size]? = some (.cells (rowsV all d N i j).toArray 62 (0, 0))) := (B5.out.block _ hwr).trans HG3.out
            have B6 := Lib.hid (two_worlds' HB3.out B5.out)
            clear hb5
            have G6 : Hid ((w5.setCell ⟨w2.heap.size, i, none⟩ (.int .u64 ((farM all d i (j + 1) : Nat) : Int))).heap[w2.heap.size]? = some (.cells (rowsV all d N i (j + 1)).toArray 62 (0, 0))) := by
              unfold Hid; rw [← rowsV_next]; exact heap_setCell_same _ _ _ _ _ _ G5.out
            go_region_law (fail)
            go_wp2
            go_roundw
            case rel => exact ⟨j + 1, by omega, by go_num, (B6.out.setCell (Nat.le_refl _) _).drew, G6.out⟩
            case measure => simp [intOf]; omega
          | false =>
            have HSK := Lib.hid (farM_skip (ss := all) (d := d) (i := i) (j := j) (by rw [HWI.out, HWJ.out]; exact hfit))
            rw [hfit] at HFT
            go_wp2_with (first | (go_at_call 70; refine (HFT _ HRS.out).mono ?_; rintro e w5 ⟨rfl, hb5⟩; have B5 := Lib.hid (Below.trans (show Below wr.heap.size wr (wr.alloc _) from (by repeat (first | exact Below.refl _ _ | refine Below.alloc ?_ (by simp; try omega) _ | refine Below.setCell ?_ (by simp; try omega) _))) (hb5.mono (by simp)))))
            have G5 : Hid (w5.heap[w2.heap.size]? = some (.cells (rowsV all d N i (j + 1)).toArray 62 (0, 0))) := by unfold Hid; rw [rowsV_skip HSK.out]; exact (B5.out.block _ hwr).trans HG3.out
            have B6 := Lib.hid (two_worlds' HB3.out B5.out)
            clear hb5
            go_roundw
            case rel => exact ⟨j + 1, by omega, by go_num, B6.out, G5.out⟩
            case measure => simp [intOf]; omega
        · have hjn : j = N := by omega
          have HG4 : Hid (wr.heap[w2.heap.size]? = some (.cells (rowsV all d N (i + 1) 0).toArray 62 (0, 0))) := by subst hjn; unfold Hid; rw [rowsV_row]; exact HG3.out
          go_wp2
          go_roundw
          case rel => exact ⟨i + 1, by omega, by go_num, HB3.out, HG4.out⟩
          case measure => simp [intOf]; omega
    · have hin : i = N := by omega
      have hwr : w2.heap.size < wr.heap.size := (Array.getElem?_eq_some_iff.1 HG.out).1
      go_wp2
      go_ret
      refine ⟨w2.heap.size, rfl, by omega, hwr, two_worlds' HB2.out HB.out, fun k hk => ?_⟩
      have := rowsV_cell HG.out hk
      rw [this]
      unfold rowV
      rw [if_pos (by omega)]
end Go.Proofs.YtpkkibnpjhlfmaaDoor
