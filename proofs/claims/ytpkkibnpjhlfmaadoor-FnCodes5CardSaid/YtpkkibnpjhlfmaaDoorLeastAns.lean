/-
  The walks of LeastDistance and CorrectsAll: the model's and the program's hand back the same.
-/
import Derived.Test.YtpkkibnpjhlfmaaDoorLeastImpl
namespace Go.Proofs.YtpkkibnpjhlfmaaDoor
open Go.RowKit

theorem ok_even {g : Int} {ss : List ByteArray} (h : okB g (bls ss) = true) : ∃ L, Even L ss := by
  have h := of_decide_eq_true h
  by_cases h0 : ss.length = 0
  · exact ⟨0, by omega, fun s hs => by rw [List.eq_nil_of_length_eq_zero h0] at hs; cases hs⟩
  · have h1 := (h.word 0 (by rw [bls_length]; omega)).2.1
    rw [bls_get _ 0 (by omega), bl_length] at h1
    refine ⟨_, h1, fun s hs => ?_⟩
    obtain ⟨i, hi, rfl⟩ := List.getElem_of_mem hs
    have h2 := h.len i (by rw [bls_length]; exact hi)
    rwa [bls_get _ _ hi, bls_get _ 0 (by omega), bl_length, bl_length] at h2
theorem leastD_le (ws : List (List UInt8)) : leastD ws ≤ 8 := by
  unfold leastD
  cases h : (List.range 9).find? fun m => decide (HasPair ws m) with
  | none => exact Nat.le_refl _
  | some m => have := List.mem_of_find?_eq_some h; simp at this; show m ≤ 8; omega
def leastAns (g : Int) (ss : List ByteArray) : Int × Int := if okB g (bls ss) = true then (if ss.length < 2 then (0, 3) else (((leastD (bls ss) : Nat) : Int), 0)) else (0, 1)
theorem leastAns_bad {g : Int} {ss : List ByteArray} (h : okB g (bls ss) = false) : leastAns g ss = (0, 1) := by unfold leastAns; rw [if_neg (by rw [h]; simp)]
theorem leastAns_few {g : Int} {ss : List ByteArray} (h : okB g (bls ss) = true) (h2 : ss.length < 2) : leastAns g ss = (0, 3) := by unfold leastAns; rw [if_pos h, if_pos h2]
theorem leastAns_ok {g : Int} {ss : List ByteArray} (h : okB g (bls ss) = true) (h2 : ¬ ss.length < 2) : leastAns g ss = (((leastD (bls ss) : Nat) : Int), 0) := by unfold leastAns; rw [if_pos h, if_neg h2]
theorem ret_pairI {p : Int × Int} {a b : Int} (h : p = (a, b)) : Ending.returned (.tuple #[.int .i64 a, .int .i64 b]) = .returned (.tuple #[.int .i64 p.1, .int .i64 p.2]) := by rw [h]
/-- Half of a distance less 1. -/
def halfD (x : Int) : Int := (x - 1).tdiv 2
def corrAns (g : Int) (ss : List ByteArray) : Int × Int := if okB g (bls ss) = true then (if ss.length < 2 then (0, 3) else (halfD ((leastD (bls ss) : Nat) : Int), 0)) else (0, 1)
theorem corrAns_bad {g : Int} {ss : List ByteArray} (h : okB g (bls ss) = false) : corrAns g ss = (0, 1) := by unfold corrAns; rw [if_neg (by rw [h]; simp)]
theorem corrAns_few {g : Int} {ss : List ByteArray} (h : okB g (bls ss) = true) (h2 : ss.length < 2) : corrAns g ss = (0, 3) := by unfold corrAns; rw [if_pos h, if_pos h2]
theorem corrAns_ok {g : Int} {ss : List ByteArray} (h : okB g (bls ss) = true) (h2 : ¬ ss.length < 2) : corrAns g ss = (halfD ((leastD (bls ss) : Nat) : Int), 0) := by unfold corrAns; rw [if_pos h, if_neg h2]

set_option maxRecDepth 100000 in
set_option maxHeartbeats 2000000 in
theorem specLeast_any (g : Int) (a : Option Addr) (ss : List ByteArray) (n ca : Nat) (w : World) (hn : Hid (ss.length = n)) (ha : RS w a ss) (hmax : n ≤ 1048576) (hsz : Hid (∀ s ∈ ss, s.size ≤ 1048576)) :
    Calls Tryd.prog 11 #[.int .i64 g, .slice a n ca] w fun e w' => e = .returned (.tuple #[.int .i64 (leastAns g ss).1, .int .i64 (leastAns g ss).2]) ∧ Below w.heap.size w w' := by
  have HW := l05Ok_any g a ss n ca w hn ha hmax hsz
  have HA : Hid (∀ w', Below w.heap.size w w' → RS w' a ss) := fun w' h => ha.below h
  clear ha
  cases ho : okB g (bls ss) with
  | false =>
    have HR := Lib.hid (leastAns_bad ho)
    rw [ho] at HW
    go_enter Tryd.func11, Tryd.ntmps11
    go_wp2_with (first | (go_at_call 49; refine HW.mono ?_; rintro e w1 ⟨rfl, hb1⟩))
    exact bodyPost_ret (v := .tuple #[.int .i64 0, .int .i64 1]) (by simp [results, Tryd.results11, go_sem]) rfl ⟨ret_pairI HR.out, hb1⟩
  | true =>
    rw [ho] at HW
    by_cases hl : n < 2
    · have HR := Lib.hid (leastAns_few ho (by rw [hn.out]; exact hl))
      go_enter Tryd.func11, Tryd.ntmps11
      go_wp2_with (first | (go_at_call 49; refine HW.mono ?_; rintro e w1 ⟨rfl, hb1⟩))
      exact bodyPost_ret (v := .tuple #[.int .i64 0, .int .i64 3]) (by simp [results, Tryd.results11, go_sem]) rfl ⟨ret_pairI HR.out, hb1⟩
    · have HR := Lib.hid (leastAns_ok ho (by rw [hn.out]; exact hl))
      obtain ⟨L, hE⟩ := ok_even ho
      have HE := Lib.hid hE
      have hl8 := leastD_le (bls ss)
      have HL := fun W hR => l05Least_any a ss n ca L W hn hR hmax (by omega) HE
      clear hE ho
      generalize leastD (bls ss) = d at HL HR hl8
      go_enter Tryd.func11, Tryd.ntmps11
      go_wp2_with (first | (go_at_call 49; refine HW.mono ?_; rintro e w1 ⟨rfl, hb1⟩) | (go_at_call 54; refine (HL _ (HA.out _ hb1)).mono ?_; rintro e w2 ⟨rfl, q, rfl⟩))
      exact bodyPost_ret (v := .tuple #[.int .i64 ((d : Nat) : Int), .int .i64 0]) (by simp [results, Tryd.results11, go_sem]) rfl ⟨ret_pairI HR.out, Below.drewN' hb1 _⟩

set_option maxRecDepth 100000 in
set_option maxHeartbeats 2000000 in
theorem implLeast_any (g : Int) (a : Option Addr) (ss : List ByteArray) (n ca : Nat) (w : World) (hn : Hid (ss.length = n)) (ha : RS w a ss) (hmax : n ≤ 1048576) (hcap : n ≤ ca) (hcm : ca ≤ 9223372036854775807) (hsz : Hid (∀ s ∈ ss, s.size ≤ 1048576)) :
    Calls Tryd.prog 10 #[.int .i64 g, .slice a n ca] w fun e w' => e = .returned (.tuple #[.int .i64 (leastAns g ss).1, .int .i64 (leastAns g ss).2]) ∧ Below w.heap.size w w' := by
  have HW := checkA_any g a ss n ca 2 w hn ha hmax hcap hcm hsz
  have HA : Hid (∀ w', Below w.heap.size w w' → RS w' a ss) := fun w' h => ha.below h
  clear ha
  cases ho : okB g (bls ss) with
  | false =>
    have HR := Lib.hid (leastAns_bad ho)
    rw [codeA_bad ho] at HW
    go_enter Tryd.func10, Tryd.ntmps10
    go_wp2_with (first | (go_at_call 52; refine HW.mono ?_; rintro e w1 ⟨rfl, hb1⟩))
    exact bodyPost_ret (v := .tuple #[.int .i64 0, .int .i64 1]) (by simp [results, Tryd.results10, go_sem]) rfl ⟨ret_pairI HR.out, hb1⟩
  | true =>
    by_cases hl : n < 2
    · have HR := Lib.hid (leastAns_few ho (by rw [hn.out]; exact hl))
      rw [codeA_few ho (by rw [hn.out]; omega)] at HW
      go_enter Tryd.func10, Tryd.ntmps10
      go_wp2_with (first | (go_at_call 52; refine HW.mono ?_; rintro e w1 ⟨rfl, hb1⟩))
      exact bodyPost_ret (v := .tuple #[.int .i64 0, .int .i64 3]) (by simp [results, Tryd.results10, go_sem]) rfl ⟨ret_pairI HR.out, hb1⟩
    · have HR := Lib.hid (leastAns_ok ho (by rw [hn.out]; exact hl))
      rw [codeA_ok ho (by rw [hn.out]; omega)] at HW
      obtain ⟨L, hE⟩ := ok_even ho
      have HE := Lib.hid hE
      have hl8 := leastD_le (bls ss)
      have HL := fun W hR => leastS_any a ss n ca L W hn hR hmax (by omega) hcap hcm HE
      clear hE ho
      generalize leastD (bls ss) = d at HL HR hl8
      go_enter Tryd.func10, Tryd.ntmps10
      go_wp2_with (first | (go_at_call 52; refine HW.mono ?_; rintro e w1 ⟨rfl, hb1⟩) | (go_at_call 53; refine (HL _ (HA.out _ hb1)).mono ?_; rintro e w2 ⟨rfl, q, rfl⟩))
      exact bodyPost_ret (v := .tuple #[.int .i64 ((d : Nat) : Int), .int .i64 0]) (by simp [results, Tryd.results10, go_sem]) rfl ⟨ret_pairI HR.out, Below.drewN' hb1 _⟩

set_option maxRecDepth 100000 in
set_option maxHeartbeats 2000000 in
theorem specCorr_any (g : Int) (a : Option Addr) (ss : List ByteArray) (n ca : Nat) (w : World) (hn : Hid (ss.length = n)) (ha : RS w a ss) (hmax : n ≤ 1048576) (hsz : Hid (∀ s ∈ ss, s.size ≤ 1048576)) :
    Calls Tryd.prog 13 #[.int .i64 g, .slice a n ca] w fun e w' => e = .returned (.tuple #[.int .i64 (corrAns g ss).1, .int .i64 (corrAns g ss).2]) ∧ Below w.heap.size w w' := by
  have HW := l05Ok_any g a ss n ca w hn ha hmax hsz
  have HA : Hid (∀ w', Below w.heap.size w w' → RS w' a ss) := fun w' h => ha.below h
  clear ha
  cases ho : okB g (bls ss) with
  | false =>
    have HR := Lib.hid (corrAns_bad ho)
    rw [ho] at HW
    go_enter Tryd.func13, Tryd.ntmps13
    go_wp2_with (first | (go_at_call 49; refine HW.mono ?_; rintro e w1 ⟨rfl, hb1⟩))
    exact bodyPost_ret (v := .tuple #[.int .i64 0, .int .i64 1]) (by simp [results, Tryd.results13, go_sem]) rfl ⟨ret_pairI HR.out, hb1⟩
  | true =>
    rw [ho] at HW
    by_cases hl : n < 2
    · have HR := Lib.hid (corrAns_few ho (by rw [hn.out]; exact hl))
      go_enter Tryd.func13, Tryd.ntmps13
      go_wp2_with (first | (go_at_call 49; refine HW.mono ?_; rintro e w1 ⟨rfl, hb1⟩))
      exact bodyPost_ret (v := .tuple #[.int .i64 0, .int .i64 3]) (by simp [results, Tryd.results13, go_sem]) rfl ⟨ret_pairI HR.out, hb1⟩
    · have HR := Lib.hid (corrAns_ok ho (by rw [hn.out]; exact hl))
      obtain ⟨L, hE⟩ := ok_even ho
      have HE := Lib.hid hE
      have hl8 := leastD_le (bls ss)
      have HL := fun W hR => l05Least_any a ss n ca L W hn hR hmax (by omega) HE
      clear hE ho
      generalize leastD (bls ss) = d at HL HR hl8
      go_enter Tryd.func13, Tryd.ntmps13
      go_wp2_with (first | (go_at_call 49; refine HW.mono ?_; rintro e w1 ⟨rfl, hb1⟩) | (go_at_call 54; refine (HL _ (HA.out _ hb1)).mono ?_; rintro e w2 ⟨rfl, q, rfl⟩))
      exact bodyPost_ret (v := .tuple #[.int .i64 (halfD ((d : Nat) : Int)), .int .i64 0]) (by simp [results, Tryd.results13, go_sem, halfD]) rfl ⟨ret_pairI HR.out, Below.drewN' hb1 _⟩

set_option maxRecDepth 100000 in
set_option maxHeartbeats 2000000 in
theorem implCorr_any (g : Int) (a : Option Addr) (ss : List ByteArray) (n ca : Nat) (w : World) (hn : Hid (ss.length = n)) (ha : RS w a ss) (hmax : n ≤ 1048576) (hcap : n ≤ ca) (hcm : ca ≤ 9223372036854775807) (hsz : Hid (∀ s ∈ ss, s.size ≤ 1048576)) :
    Calls Tryd.prog 12 #[.int .i64 g, .slice a n ca] w fun e w' => e = .returned (.tuple #[.int .i64 (corrAns g ss).1, .int .i64 (corrAns g ss).2]) ∧ Below w.heap.size w w' := by
  have HW := checkA_any g a ss n ca 2 w hn ha hmax hcap hcm hsz
  have HA : Hid (∀ w', Below w.heap.size w w' → RS w' a ss) := fun w' h => ha.below h
  clear ha
  cases ho : okB g (bls ss) with
  | false =>
    have HR := Lib.hid (corrAns_bad ho)
    rw [codeA_bad ho] at HW
    go_enter Tryd.func12, Tryd.ntmps12
    go_wp2_with (first | (go_at_call 52; refine HW.mono ?_; rintro e w1 ⟨rfl, hb1⟩))
    exact bodyPost_ret (v := .tuple #[.int .i64 0, .int .i64 1]) (by simp [results, Tryd.results12, go_sem]) rfl ⟨ret_pairI HR.out, hb1⟩
  | true =>
    by_cases hl : n < 2
    · have HR := Lib.hid (corrAns_few ho (by rw [hn.out]; exact hl))
      rw [codeA_few ho (by rw [hn.out]; omega)] at HW
      go_enter Tryd.func12, Tryd.ntmps12
      go_wp2_with (first | (go_at_call 52; refine HW.mono ?_; rintro e w1 ⟨rfl, hb1⟩))
      exact bodyPost_ret (v := .tuple #[.int .i64 0, .int .i64 3]) (by simp [results, Tryd.results12, go_sem]) rfl ⟨ret_pairI HR.out, hb1⟩
    · have HR := Lib.hid (corrAns_ok ho (by rw [hn.out]; exact hl))
      rw [codeA_ok ho (by rw [hn.out]; omega)] at HW
      obtain ⟨L, hE⟩ := ok_even ho
      have HE := Lib.hid hE
      have hl8 := leastD_le (bls ss)
      have HL := fun W hR => leastS_any a ss n ca L W hn hR hmax (by omega) hcap hcm HE
      clear hE ho
      generalize leastD (bls ss) = d at HL HR hl8
      go_enter Tryd.func12, Tryd.ntmps12
      go_wp2_with (first | (go_at_call 52; refine HW.mono ?_; rintro e w1 ⟨rfl, hb1⟩) | (go_at_call 53; refine (HL _ (HA.out _ hb1)).mono ?_; rintro e w2 ⟨rfl, q, rfl⟩))
      exact bodyPost_ret (v := .tuple #[.int .i64 (halfD ((d : Nat) : Int)), .int .i64 0]) (by simp [results, Tryd.results12, go_sem, halfD]) rfl ⟨ret_pairI HR.out, Below.drewN' hb1 _⟩
end Go.Proofs.YtpkkibnpjhlfmaaDoor
