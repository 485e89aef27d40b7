/-
  The walks of LeastDistance and CorrectsAll: the model's and the program's hand back the same.
-/
import Derived.Test.YtfchbncknedeiaaDoorLeastImpl
namespace Go.Proofs.YtfchbncknedeiaaDoor
open Go.RowKit

theorem ok_even {g : Int} {ss : List ByteArray} (h : okB g (bls ss) = true) : ∃ L, Even L ss := by
  have h := of_decide_eq_true h
  by_cases h0 : ss.length = 0
  · exact ⟨0, by omega, fun s hs => by rw [List.eq_nil_of_length_eq_zero h0] at hs; cases hs⟩
  · have h1 := (h.word 0 (by rw [bls_length]; omega)).2.1
    rw [bls_get _ 0 (by omega), bl_length] at h1
    refine ⟨_, h1, fun s hs => ?_⟩
    obtain ⟨i, hi, rfl⟩ := List.getElem_of_mem hs
    have h2 := h.len i (by rw [bls_length]; exact hi)
    rwa [bls_get _ _ hi, bls_get _ 0 (by omega), bl_length, bl_length] at h2
theorem leastD_le (ws : List (List UInt8)) : leastD ws ≤ 8 := by
  unfold leastD
  cases h : (List.range 9).find? fun m => decide (HasPair ws m) with
  | none => exact Nat.le_refl _
  | some m => have := List.mem_of_find?_eq_some h; simp at this; show m ≤ 8; omega
def leastAns (g : Int) (ss : List ByteArray) : Int × Int := if okB g (bls ss) = true then (if ss.length < 2 then (0, 3) else (((leastD (bls ss) : Nat) : Int), 0)) else (0, 1)
theorem leastAns_bad {g : Int} {ss : List ByteArray} (h : okB g (bls ss) = false) : leastAns g ss = (0, 1) := by unfold leastAns; rw [if_neg (by rw [h]; simp)]
theorem leastAns_few {g : Int} {ss : List ByteArray} (h : okB g (bls ss) = true) (h2 : ss.length < 2) : leastAns g ss = (0, 3) := by unfold leastAns; rw [if_pos h, if_pos h2]
theorem leastAns_ok {g : Int} {ss : List ByteArray} (h : okB g (bls ss) = true) (h2 : ¬ ss.length < 2) : leastAns g ss = (((leastD (bls ss) : Nat) : Int), 0) := by unfold leastAns; rw [if_pos h, if_neg h2]
theorem ret_pairI {p : Int × Int} {a b : Int} (h : p = (a, b)) : Ending.returned (.tuple #[.int .i64 a, .int .i64 b]) = .returned (.tuple #[.int .i64 p.1, .int .i64 p.2]) := by rw [h]
/-- Half of a distance less 1. -/
def halfD (x : Int) : Int := (x - 1).tdiv 2
def corrAns (g : Int) (ss : List ByteArray) : Int × Int := if okB g (bls ss) = true then (if ss.length < 2 then (0, 3) else (halfD ((leastD (bls ss) : Nat) : Int), 0)) else (0, 1)
theorem corrAns_bad {g : Int} {ss : List ByteArray} (h : okB g (bls ss) = false) : corrAns g ss = (0, 1) := by unfold corrAns; rw [if_neg (by rw [h]; simp)]
theorem corrAns_few {g : Int} {ss : List ByteArray} (h : okB g (bls ss) = true) (h2 : ss.length < 2) : corrAns g ss = (0, 3) := by unfold corrAns; rw [if_pos h, if_pos h2]
theorem corrAns_ok {g : Int} {ss : List ByteArray} (h : okB g (bls ss) = true) (h2 : ¬ ss.length < 2) : corrAns g ss = (halfD ((leastD (bls ss) : Nat) : Int), 0) := by unfold corrAns; rw [if_pos h, if_neg h2]

end Go.Proofs.YtfchbncknedeiaaDoor
