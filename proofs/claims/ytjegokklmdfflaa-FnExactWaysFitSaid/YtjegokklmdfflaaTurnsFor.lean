/-
  The walks of TurnsFor, the model's and the program's.
-/
import Derived.Test.YtjegokklmdfflaaTurnsDel
namespace Go.Proofs.Ytjegokklmdfflaa
open Go.RowKit

/-- What TurnsFor returns. -/
def turnsOf (s : Int) (ts : List T3) (set way : List Int) : Int × Int := if wayCode s ts set way = 0 then (((leftN set (nds ts way way.length) : Nat) : Int), 0) else (0, wayCode s ts set way)
theorem leftN_perm {set : List Int} {l l' : List (Int × Int)} (h : l'.Perm l) : leftN set l' = leftN set l := h.countP_eq _
theorem leftN_le (set : List Int) (l : List (Int × Int)) : leftN set l ≤ l.length := List.countP_le_length
theorem nds_in {s : Int} {n : Nat} {ts : List T3} {way : List Int} (hn : ts.length = n) (hnet : netB s ts = true) (hsim : simpleB ts way = true) : ∀ x, x ∈ nds ts way way.length → 0 ≤ x.1 ∧ x.1 < s := by
  intro x hx
  obtain ⟨_, _, _, hT⟩ := netB_parts hnet
  unfold nds at hx
  rw [List.take_length, List.mem_map] at hx
  obtain ⟨z, hz, rfl⟩ := hx
  obtain ⟨i, hi, rfl⟩ := List.getElem_of_mem hz
  obtain ⟨i0, i1⟩ := stB_parts (way_st hn hsim i hi)
  have hj : (way[i]).toNat < ts.length := by rw [hn]; omega
  have hfa := frAt_of (List.getElem?_eq_getElem hj)
  rw [show (((way[i]).toNat : Nat) : Int) = way[i] by omega] at hfa
  have := hT _ (List.getElem_mem hj)
  unfold tubeB at this
  have := of_decide_eq_true this
  simp only
  rw [hfa]
  exact ⟨this.1, this.2.1⟩

theorem nds_step {set : List Int} {ts : List T3} {way : List Int} {k : Nat} (hk : k < way.length) : leftN set (nds ts way (k + 1)) = leftN set (nds ts way k) + (if metB set (frAt ts way[k], way[k]) = true then 0 else 1) := by
  rw [nds_succ hk]
  unfold leftN
  rw [List.countP_append]
  cases h : metB set (frAt ts way[k], way[k]) <;> simp [h]

end Go.Proofs.Ytjegokklmdfflaa
