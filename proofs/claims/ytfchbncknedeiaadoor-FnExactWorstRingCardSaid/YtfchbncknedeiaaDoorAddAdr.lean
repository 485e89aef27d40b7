/-
  The walks of AddAddress: the model's and the program's both hand back 'addAns'.
-/
import Derived.Test.YtfchbncknedeiaaDoorGreedy
import Derived.Test.YtfchbncknedeiaaDoorLeastAns
import Derived.Test.YtfchbncknedeiaaDoorShelf
namespace Go.Proofs.YtfchbncknedeiaaDoor
open Go.RowKit

/-- The first of some texts that is far enough from others. -/
def firstFar (d : Int) (ss : List ByteArray) (all : List ByteArray) : Option ByteArray := all.find? fun s => !nearB ss s d
theorem firstFar_drop (d : Int) (ss all : List ByteArray) : firstFar d ss all = firstFar d ss (all.drop 0) := rfl
theorem firstFar_hit {d : Int} {ss all : List ByteArray} {k : Nat} {t : ByteArray} (hk : k < all.length) (e : all[k] = t) (h : nearB ss t d = false) : firstFar d ss (all.drop k) = some t := by
  rw [List.drop_eq_getElem_cons hk, e]; unfold firstFar; rw [List.find?_cons]; simp [h]
theorem firstFar_miss {d : Int} {ss all : List ByteArray} {k : Nat} {t : ByteArray} (hk : k < all.length) (e : all[k] = t) (h : nearB ss t d = true) : firstFar d ss (all.drop k) = firstFar d ss (all.drop (k + 1)) := by
  rw [List.drop_eq_getElem_cons hk, e]; unfold firstFar; rw [List.find?_cons]; simp [h]
theorem firstFar_end {d : Int} {ss all : List ByteArray} : firstFar d ss (all.drop all.length) = none := by rw [List.drop_length]; rfl
/-- The length of the first address. -/
def lenA (ss : List ByteArray) : Nat := (ss.getD 0 ByteArray.empty).size
def addAns (g : Int) (ss : List ByteArray) (d : Int) : List ByteArray × Int :=
  if okB g (bls ss) = true then (if 1 ≤ d ∧ d ≤ 8 then (if ss.length = 0 then ([], 6) else (if 40 ≤ ss.length ∨ 300 < g.toNat ^ lenA ss then ([], 5) else (match firstFar d ss (bas (allW g.toNat (lenA ss))) with | some t => (ss ++ [t], 0) | none => ([], 3)))) else ([], 2)) else ([], 1)
theorem addAns_len (g : Int) (ss : List ByteArray) (d : Int) (h : ss.length ≤ 1048576) : (addAns g ss d).1.length ≤ 1048576 := by
  unfold addAns
  split
  · split
    · split
      · simp
      · split
        · simp
        · rename_i h4
          split
          · rw [List.length_append]; simp; omega
          · simp
    · simp
  · simp
theorem addAns_bad {g : Int} {ss : List ByteArray} {d : Int} (h : okB g (bls ss) = false) : addAns g ss d = ([], 1) := by unfold addAns; rw [if_neg (by rw [h]; simp)]
theorem addAns_range {g : Int} {ss : List ByteArray} {d : Int} (h : okB g (bls ss) = true) (h2 : ¬ (1 ≤ d ∧ d ≤ 8)) : addAns g ss d = ([], 2) := by unfold addAns; rw [if_pos h, if_neg h2]
theorem addAns_none {g : Int} {ss : List ByteArray} {d : Int} (h : okB g (bls ss) = true) (h2 : 1 ≤ d ∧ d ≤ 8) (h3 : ss.length = 0) : addAns g ss d = ([], 6) := by unfold addAns; rw [if_pos h, if_pos h2, if_pos h3]
theorem addAns_full {g : Int} {ss : List ByteArray} {d : Int} (h : okB g (bls ss) = true) (h2 : 1 ≤ d ∧ d ≤ 8) (h3 : ¬ ss.length = 0) (h4 : 40 ≤ ss.length ∨ 300 < g.toNat ^ lenA ss) : addAns g ss d = ([], 5) := by unfold addAns; rw [if_pos h, if_pos h2, if_neg h3, if_pos h4]
theorem addAns_found {g : Int} {ss : List ByteArray} {d : Int} {t : ByteArray} (h : okB g (bls ss) = true) (h2 : 1 ≤ d ∧ d ≤ 8) (h3 : ¬ ss.length = 0) (h4 : ¬ (40 ≤ ss.length ∨ 300 < g.toNat ^ lenA ss)) (h5 : firstFar d ss (bas (allW g.toNat (lenA ss))) = some t) : addAns g ss d = (ss ++ [t], 0) := by unfold addAns; rw [if_pos h, if_pos h2, if_neg h3, if_neg h4, h5]
theorem addAns_lost {g : Int} {ss : List ByteArray} {d : Int} (h : okB g (bls ss) = true) (h2 : 1 ≤ d ∧ d ≤ 8) (h3 : ¬ ss.length = 0) (h4 : ¬ (40 ≤ ss.length ∨ 300 < g.toNat ^ lenA ss)) (h5 : firstFar d ss (bas (allW g.toNat (lenA ss))) = none) : addAns g ss d = ([], 3) := by unfold addAns; rw [if_pos h, if_pos h2, if_neg h3, if_neg h4, h5]
theorem ok_parts {g : Int} {ss : List ByteArray} (h : okB g (bls ss) = true) : 2 ≤ g ∧ g ≤ 4 ∧ ss.length ≤ 40 := by
  have h := (of_decide_eq_true h).1
  rwa [bls_length] at h
theorem ok_first {g : Int} {ss : List ByteArray} (h : okB g (bls ss) = true) (h0 : 0 < ss.length) : 1 ≤ lenA ss ∧ lenA ss ≤ 8 ∧ ∀ s ∈ ss, s.size = lenA ss := by
  have h := of_decide_eq_true h
  have e : lenA ss = (ss[0]).size := by unfold lenA; rw [List.getD_eq_getElem?_getD, List.getElem?_eq_getElem h0]; rfl
  have h1 := h.word 0 (by rw [bls_length]; omega)
  rw [bls_get _ 0 h0] at h1
  refine ⟨by have := h1.1; rw [bl_length] at this; omega, by have := h1.2.1; rw [bl_length] at this; omega, fun s hs => ?_⟩
  obtain ⟨i, hi, rfl⟩ := List.getElem_of_mem hs
  have h2 := h.len i (by rw [bls_length]; exact hi)
  rw [bls_get _ _ hi, bls_get _ 0 h0, bl_length, bl_length] at h2
  omega

theorem getD0 {ss : List ByteArray} {t0 : ByteArray} (h0 : 0 < ss.length) (e : ss[0] = t0) : lenA ss = t0.size := by
  unfold lenA; rw [List.getD_eq_getElem?_getD, List.getElem?_eq_getElem h0]; exact congrArg _ e

theorem bas_each {g r : Nat} : ∀ s ∈ bas (allW g r), s.size = r := by
  intro s hs
  obtain ⟨l, hl, rfl⟩ := List.mem_map.1 hs
  have := allW_each r l hl
  simpa [ByteArray.size] using this
theorem row_cellG {w : World} {g n cap lo : Nat} {e : TypeId} {ns : List ByteArray} (h : w.ownsRow lo e 1 (.slice (some ⟨g, 0, none⟩) n cap) n (ns.map Value.string)) (i : Nat) (hi : i < ns.length) : w.cell? ⟨g, i, none⟩ = some (.string ns[i]) := by
  have := h.cells (g := g) rfl i _ (strs_cell ns i hi)
  rw [Addr.add_lit, Nat.zero_add] at this
  exact this
theorem one_strG (s : ByteArray) : ∀ u ∈ [Value.string s], u.oneCell' = true := by intro u hu; simp at hu; subst hu; rfl

end Go.Proofs.YtfchbncknedeiaaDoor
