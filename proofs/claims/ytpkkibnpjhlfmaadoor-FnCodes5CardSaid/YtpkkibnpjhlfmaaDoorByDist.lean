/-
  The sets of words by their distances from a word: the program's table of nine sets.
-/
import Derived.Test.YtpkkibnpjhlfmaaDoorBits
import Derived.Test.YtpkkibnpjhlfmaaDoorLeastAns
import Derived.Lib.LaidTab
import Derived.Test.YtpkkibnpjhlfmaaDoorRows
import Derived.Deep.RegionLaw
import Derived.LaidMore
namespace Go.Proofs.YtpkkibnpjhlfmaaDoor
open Go.RowKit

def farS (ss : List ByteArray) (s : ByteArray) (i : Nat) : Nat := farL (bl (ss.getD i ByteArray.empty)) (bl s)
theorem farS_at {ss : List ByteArray} {s t : ByteArray} {i : Nat} (hi : i < ss.length) (e : ss[i] = t) : farS ss s i = farL (bl t) (bl s) := by
  unfold farS
  rw [List.getD_eq_getElem?_getD, List.getElem?_eq_getElem hi, e]; rfl
def setD (ss : List ByteArray) (s : ByteArray) (d n : Nat) : Nat := setN (fun i => decide (farS ss s i = d)) n
def setsV (ss : List ByteArray) (s : ByteArray) (n : Nat) : List Value := (List.range 9).map fun d => .int .u64 ((setD ss s d n : Nat) : Int)
theorem setsV_at (ss : List ByteArray) (s : ByteArray) (n d : Nat) (h : d < 9) : (setsV ss s n)[d]? = some (.int .u64 ((setD ss s d n : Nat) : Int)) := by
  unfold setsV
  rw [List.getElem?_map, List.getElem?_range h]; rfl
theorem setsV_len (ss : List ByteArray) (s : ByteArray) (n : Nat) : (setsV ss s n).length = 9 := by simp [setsV]
theorem setsV_step {ss : List ByteArray} {s : ByteArray} {i d : Nat} (hd : farS ss s i = d) : (setsV ss s i).toArray.setIfInBounds d (.int .u64 ((setD ss s d i ||| 2 ^ i : Nat) : Int)) = (setsV ss s (i + 1)).toArray := by
  rw [List.setIfInBounds_toArray]
  congr 1
  apply List.ext_getElem?
  intro j
  rw [List.getElem?_set, setsV_len]
  by_cases hj : j < 9
  · rw [setsV_at _ _ _ j hj, setsV_at _ _ _ j hj]
    by_cases e : d = j
    · subst e
      rw [if_pos rfl, if_pos hj]
      congr 3
      show setN _ i ||| 2 ^ i = setN _ i + _
      rw [setN_or]; simp [hd]
    · rw [if_neg e]
      congr 3
      show setN _ i = setN _ i + _
      simp [hd, e]
  · rw [List.getElem?_eq_none (by rw [setsV_len]; omega), List.getElem?_eq_none (by rw [setsV_len]; omega)]
    have : ¬ d = j ∨ d = j := by omega
    rcases this with e | e
    · rw [if_neg e]
    · rw [if_pos e, if_neg (by omega)]
theorem setD_lt (ss : List ByteArray) (s : ByteArray) (d n : Nat) (h : n ≤ 40) : setD ss s d n < 1099511627776 := setN_lt64 _ h
theorem or_u64 (x i : Nat) (hx : x < 1099511627776) (hi : i < 40) : bits BinOp.or IntKind.u64 (x : Int) (IntKind.u64.wrap (2 ^ i)) = ((x ||| 2 ^ i : Nat) : Int) := by
  have h2 : 2 ^ i < 2 ^ 64 := Nat.pow_lt_pow_right (by decide) (by omega)
  rw [shl_u64 i (by omega)]
  exact bits_or_u64_nat _ _ (by omega) (by omega)
theorem zero_sets (ss : List ByteArray) (s : ByteArray) : (setsV ss s 0).toArray = #[.int .u64 0, .int .u64 0, .int .u64 0, .int .u64 0, .int .u64 0, .int .u64 0, .int .u64 0, .int .u64 0, .int .u64 0] := rfl
theorem cell_sets {w : World} {g : Nat} {e : TypeId} {vs : List Value} {f : Nat × Nat} (h : w.heap[g]? = some (.cells vs.toArray e f)) (j : Nat) (v : Value) (hv : vs[j]? = some v) : w.cell? ⟨g, j, none⟩ = some v := by
  rw [cell_of_row w _ _ _ _ _ h, List.getElem?_toArray, hv]

set_option maxRecDepth 100000 in
set_option maxHeartbeats 4000000 in
theorem byDistance_any (a : Option Addr) (ss : List ByteArray) (s : ByteArray) (n ca : Nat) (w : World) (hn : Hid (ss.length = n)) (ha : RS w a ss) (hmax : n ≤ 40) (hs8 : s.size ≤ 8) (HE : Hid (∀ t ∈ ss, t.size = s.size)) :
    Calls Tryd.prog 46 #[.slice a n ca, .string s] w fun e w' => e = .returned (.agg (setsV ss s n).toArray) ∧ Below w.heap.size w w' := by
  obtain ⟨Z, hZ⟩ : ∃ Z : Array Value, Z = #[.int .u64 0, .int .u64 0, .int .u64 0, .int .u64 0, .int .u64 0, .int .u64 0, .int .u64 0, .int .u64 0, .int .u64 0] := ⟨_, rfl⟩
  have HZ := Lib.hid hZ
  have HA : Hid (∀ W, Below w.heap.size w W → RS W a ss) := fun W hB => ha.below hB
  clear hZ ha
  go_enter Tryd.func46, Tryd.ntmps46
  go_wp2_with fail
  rw [← HZ.out]
  go_loopw [10] (fun iv wr => ∃ i : Nat, i ≤ n ∧ iv = .int .i64 (i : Int) ∧ Hid (Below w.heap.size w wr) ∧ Hid (wr.heap[w.heap.size]? = some (.cells Z 63 (0, 0))) ∧ Hid (wr.heap[w.heap.size + 1]? = some (.cells (setsV ss s i).toArray 63 (0, 0)))) (fun iv _ => n - (intOf iv).toNat)
  case atStart =>
    refine ⟨0, by omega, rfl, ((Below.refl _ _).alloc (Nat.le_refl _) _).alloc (by simp) _, (heap_alloc_old _ _ (by simp)).trans (heap_alloc_new w _), ?_⟩
    have := heap_alloc_new (w.alloc (.cells Z 63)) (.cells Z 63)
    rw [zero_sets ss s, ← HZ.out]
    unfold Hid
    simpa using this
  case round =>
    obtain ⟨i, hi, rfl, HB, HG0, HG1⟩ := hrel
    have hgl : w.heap.size + 1 < wr.heap.size := (Array.getElem?_eq_some_iff.1 HG1.out).1
    by_cases hlt : i < n
    · have hia : i < ss.length := by rw [hn.out]; exact hlt
      obtain ⟨b, off, rfl, hb, hc⟩ := (HA.out w (Below.refl _ _)).addr (by omega)
      have x1 := hc i hia
      obtain ⟨t, ht⟩ : ∃ t, ss[i] = t := ⟨_, rfl⟩
      have HF := Lib.hid (farS_at (s := s) hia ht)
      have hts : t.size = s.size := by rw [← ht]; exact HE.out _ (List.getElem_mem _)
      rw [ht, ← HB.out.cell (p := ⟨b, off + i, none⟩) hb] at x1
      have hk0 : (0 : Int) ≤ (i : Int) := by omega
      have hk1 : (i : Int) < (n : Int) := by omega
      have HD := distanceOf_any t s hts (by omega)
      have hfl : farL (bl t) (bl s) ≤ 8 := by have := farL_le (bl t) (bl s); rw [bl_length] at this; omega
      have HST : Hid ((setsV ss s i).toArray.setIfInBounds (farL (bl t) (bl s)) (.int .u64 ((setD ss s (farL (bl t) (bl s)) i ||| 2 ^ i : Nat) : Int)) = (setsV ss s (i + 1)).toArray) := setsV_step HF.out
      generalize farL (bl t) (bl s) = d at HD hfl HST
      have y1 := cell_sets HG1.out d _ (setsV_at ss s i d (by omega))
      have z1 := frozen_of_row wr (w.heap.size + 1) d (setsV ss s i).toArray _ HG1.out
      have hor := or_u64 (setD ss s d i) i (setD_lt _ _ _ _ (by omega)) (by omega)
      generalize setD ss s d i = x at y1 hor HST
      have hd0 : (0 : Int) ≤ (d : Int) := by omega
      have hd1 : (d : Int) < 9 := by omega
      clear hc ht
      go_wp2_with fail
      go_region_law (go_simp; go_at_call 56; refine (HD _).mono ?_; rintro e w5 ⟨rfl, q, rfl⟩)
      have HG0' := Lib.hid (show (wr.drewN (1 + q)).heap[w.heap.size]? = _ from HG0.out)
      have HG1' := Lib.hid (show (wr.drewN (1 + q)).heap[w.heap.size + 1]? = _ from HG1.out)
      have HB' : Hid (Below w.heap.size w (wr.drewN (1 + q))) := Below.drewN' HB.out _
      go_wp2
      go_roundw
      case rel =>
        refine ⟨i + 1, by omega, by go_num, HB'.out.setCell (by show w.heap.size ≤ w.heap.size + 1; omega) _, (heap_setCell_other _ _ _ _ (by show w.heap.size ≠ w.heap.size + 1; omega)).trans HG0'.out, ?_⟩
        unfold Hid
        rw [← HST.out]
        exact heap_setCell_same _ _ _ _ _ _ HG1'.out
      case measure => simp [intOf]; omega
    · have hin : i = n := by omega
      subst hin
      have x0 := cell_sets HG1.out 0 _ (setsV_at ss s i 0 (by omega))
      have x1 := cell_sets HG1.out 1 _ (setsV_at ss s i 1 (by omega))
      have x2 := cell_sets HG1.out 2 _ (setsV_at ss s i 2 (by omega))
      have x3 := cell_sets HG1.out 3 _ (setsV_at ss s i 3 (by omega))
      have x4 := cell_sets HG1.out 4 _ (setsV_at ss s i 4 (by omega))
      have x5 := cell_sets HG1.out 5 _ (setsV_at ss s i 5 (by omega))
      have x6 := cell_sets HG1.out 6 _ (setsV_at ss s i 6 (by omega))
      have x7 := cell_sets HG1.out 7 _ (setsV_at ss s i 7 (by omega))
      have x8 := cell_sets HG1.out 8 _ (setsV_at ss s i 8 (by omega))
      have HV : Hid ((setsV ss s i).toArray = #[.int .u64 ((setD ss s 0 i : Nat) : Int), .int .u64 ((setD ss s 1 i : Nat) : Int), .int .u64 ((setD ss s 2 i : Nat) : Int), .int .u64 ((setD ss s 3 i : Nat) : Int), .int .u64 ((setD ss s 4 i : Nat) : Int), .int .u64 ((setD ss s 5 i : Nat) : Int), .int .u64 ((setD ss s 6 i : Nat) : Int), .int .u64 ((setD ss s 7 i : Nat) : Int), .int .u64 ((setD ss s 8 i : Nat) : Int)]) := rfl
      generalize setD ss s 0 i = v0 at x0 HV
      generalize setD ss s 1 i = v1 at x1 HV
      generalize setD ss s 2 i = v2 at x2 HV
      generalize setD ss s 3 i = v3 at x3 HV
      generalize setD ss s 4 i = v4 at x4 HV
      generalize setD ss s 5 i = v5 at x5 HV
      generalize setD ss s 6 i = v6 at x6 HV
      generalize setD ss s 7 i = v7 at x7 HV
      generalize setD ss s 8 i = v8 at x8 HV
      have hq : wr.heap[w.heap.size]? = some (.cells #[.int .u64 0, .int .u64 0, .int .u64 0, .int .u64 0, .int .u64 0, .int .u64 0, .int .u64 0, .int .u64 0, .int .u64 0] 63 (0, 0)) := by rw [← HZ.out]; exact HG0.out
      have q0 : wr.cell? ⟨w.heap.size, 0, none⟩ = some (.int .u64 0) := by rw [cell_of_row wr _ _ _ _ _ hq]; rfl
      have q1 : wr.cell? ⟨w.heap.size, 1, none⟩ = some (.int .u64 0) := by rw [cell_of_row wr _ _ _ _ _ hq]; rfl
      have q2 : wr.cell? ⟨w.heap.size, 2, none⟩ = some (.int .u64 0) := by rw [cell_of_row wr _ _ _ _ _ hq]; rfl
      have q3 : wr.cell? ⟨w.heap.size, 3, none⟩ = some (.int .u64 0) := by rw [cell_of_row wr _ _ _ _ _ hq]; rfl
      have q4 : wr.cell? ⟨w.heap.size, 4, none⟩ = some (.int .u64 0) := by rw [cell_of_row wr _ _ _ _ _ hq]; rfl
      have q5 : wr.cell? ⟨w.heap.size, 5, none⟩ = some (.int .u64 0) := by rw [cell_of_row wr _ _ _ _ _ hq]; rfl
      have q6 : wr.cell? ⟨w.heap.size, 6, none⟩ = some (.int .u64 0) := by rw [cell_of_row wr _ _ _ _ _ hq]; rfl
      have q7 : wr.cell? ⟨w.heap.size, 7, none⟩ = some (.int .u64 0) := by rw [cell_of_row wr _ _ _ _ _ hq]; rfl
      have q8 : wr.cell? ⟨w.heap.size, 8, none⟩ = some (.int .u64 0) := by rw [cell_of_row wr _ _ _ _ _ hq]; rfl
      have f0 := fun j => frozen_of_row wr w.heap.size j _ _ hq
      clear hq
      go_wp2
      exact bodyPost_ret (v := .agg #[.int .u64 (v0 : Int), .int .u64 (v1 : Int), .int .u64 (v2 : Int), .int .u64 (v3 : Int), .int .u64 (v4 : Int), .int .u64 (v5 : Int), .int .u64 (v6 : Int), .int .u64 (v7 : Int), .int .u64 (v8 : Int)]) (by simp [results, Tryd.results46, go_sem, q0, q1, q2, q3, q4, q5, q6, q7, q8]) rfl ⟨by rw [HV.out], (((((((((HB.out.setCell (Nat.le_refl _) _).setCell (Nat.le_refl _) _).setCell (Nat.le_refl _) _).setCell (Nat.le_refl _) _).setCell (Nat.le_refl _) _).setCell (Nat.le_refl _) _).setCell (Nat.le_refl _) _).setCell (Nat.le_refl _) _).setCell (Nat.le_refl _) _)⟩
end Go.Proofs.YtpkkibnpjhlfmaaDoor
