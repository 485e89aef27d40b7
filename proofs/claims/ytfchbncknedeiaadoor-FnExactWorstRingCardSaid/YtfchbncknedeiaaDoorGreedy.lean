/-
  The walks of the tests whether a word is far enough from others: the model's l05Near, the program's fits; and what a greedy code takes.
-/
import Derived.Test.YtfchbncknedeiaaDoorAllAnswer
namespace Go.Proofs.YtfchbncknedeiaaDoor
open Go.RowKit

/-- One of some texts is nearer to a text than a distance. -/
def nearB (ts : List ByteArray) (s : ByteArray) (d : Int) : Bool := ts.any fun t => decide (((farL (bl t) (bl s) : Nat) : Int) < d)
theorem nearB_yes {ts : List ByteArray} {s : ByteArray} {d : Int} (i : Nat) (hi : i < ts.length) (t : ByteArray) (e : ts[i] = t) (h : ((farL (bl t) (bl s) : Nat) : Int) < d) : nearB ts s d = true := by
  subst e
  unfold nearB
  rw [List.any_eq_true]
  exact ⟨_, List.getElem_mem hi, by simpa using h⟩
theorem nearB_no {ts : List ByteArray} {s : ByteArray} {d : Int} (h : ∀ i (hi : i < ts.length), d ≤ ((farL (bl ts[i]) (bl s) : Nat) : Int)) : nearB ts s d = false := by
  unfold nearB
  rw [List.any_eq_false]
  intro t ht
  obtain ⟨i, hi, rfl⟩ := List.getElem_of_mem ht
  have := h i hi
  simp; omega
/-- What has been taken of the first k words. -/
def grTo (d : Int) (all : List ByteArray) : Nat → List ByteArray
  | 0 => []
  | k + 1 => if nearB (grTo d all k) (all.getD k ByteArray.empty) d = true then grTo d all k else grTo d all k ++ [all.getD k ByteArray.empty]
theorem grTo_len (d : Int) (all : List ByteArray) (k : Nat) : (grTo d all k).length ≤ k := by
  induction k with
  | zero => exact Nat.le_refl _
  | succ k ih =>
    unfold grTo
    split
    · omega
    · rw [List.length_append]; simp; omega
theorem grTo_mem (d : Int) (all : List ByteArray) (k : Nat) (hk : k ≤ all.length) : ∀ s ∈ grTo d all k, s ∈ all := by
  induction k with
  | zero => intro s hs; cases hs
  | succ k ih =>
    intro s hs
    unfold grTo at hs
    have hm : all.getD k ByteArray.empty ∈ all := by
      rw [List.getD_eq_getElem?_getD, List.getElem?_eq_getElem (by omega)]; exact List.getElem_mem _
    split at hs
    · exact ih (by omega) s hs
    · rcases List.mem_append.1 hs with h | h
      · exact ih (by omega) s h
      · simp at h; subst h; exact hm
theorem grTo_near {d : Int} {all : List ByteArray} {k : Nat} {t : ByteArray} (hk : k < all.length) (e : all[k] = t) (h : nearB (grTo d all k) t d = true) : grTo d all (k + 1) = grTo d all k := by
  have e2 : all.getD k ByteArray.empty = t := by rw [List.getD_eq_getElem?_getD, List.getElem?_eq_getElem hk]; exact e
  show (if nearB (grTo d all k) (all.getD k ByteArray.empty) d = true then _ else _) = _
  rw [e2, if_pos h]
theorem grTo_far {d : Int} {all : List ByteArray} {k : Nat} {t : ByteArray} (hk : k < all.length) (e : all[k] = t) (h : nearB (grTo d all k) t d = false) : grTo d all (k + 1) = grTo d all k ++ [t] := by
  have e2 : all.getD k ByteArray.empty = t := by rw [List.getD_eq_getElem?_getD, List.getElem?_eq_getElem hk]; exact e
  show (if nearB (grTo d all k) (all.getD k ByteArray.empty) d = true then _ else _) = _
  rw [e2, if_neg (by rw [h]; simp)]

end Go.Proofs.YtfchbncknedeiaaDoor
