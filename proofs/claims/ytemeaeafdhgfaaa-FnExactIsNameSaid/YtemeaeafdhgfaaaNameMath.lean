/-
  Plain facts on names: what a text of bytes must be to be a name. Nothing of the program stands here.
-/
import Derived.WalkKit
import Derived.Laws.RangeString
import Derived.Laws.RangeAny
namespace Go.Proofs.Ytemeaeafdhgfaaa
open Go.RowKit

def smallB (x : Int) : Bool := decide (97 ≤ x ∧ x ≤ 122)
def digitB (x : Int) : Bool := decide (48 ≤ x ∧ x ≤ 57)
def okB (x : Int) : Bool := smallB x || digitB x || x == 45
def nameB (l : List UInt8) : Bool := decide (1 ≤ l.length ∧ l.length ≤ 12) && smallB ((l.getD 0 0).toNat : Int) && l.all fun c => okB (c.toNat : Int)

theorem nameB_short (l : List UInt8) (h : l.length = 0) : nameB l = false := by simp [nameB, h]
theorem nameB_long (l : List UInt8) (h : 12 < l.length) : nameB l = false := by
  have : ¬ l.length ≤ 12 := by omega
  simp [nameB, this]
theorem nameB_first (l : List UInt8) (h : smallB ((l.getD 0 0).toNat : Int) = false) : nameB l = false := by unfold nameB; rw [h]; simp
theorem nameB_bad (l : List UInt8) (k : Nat) (hk : k < l.length) (h : okB (l[k].toNat : Int) = false) : nameB l = false := by
  unfold nameB
  have : (l.all fun c => okB (c.toNat : Int)) = false := by
    rw [List.all_eq_false]
    exact ⟨l[k], List.getElem_mem hk, by simp [h]⟩
  rw [this]; simp
theorem nameB_good (l : List UInt8) (h1 : 1 ≤ l.length) (h2 : l.length ≤ 12) (h3 : smallB ((l.getD 0 0).toNat : Int) = true) (h4 : ∀ k (hk : k < l.length), okB (l[k].toNat : Int) = true) : nameB l = true := by
  unfold nameB
  have : (l.all fun c => okB (c.toNat : Int)) = true := by
    rw [List.all_eq_true]
    intro c hc
    obtain ⟨k, hk, rfl⟩ := List.getElem_of_mem hc
    exact h4 k hk
  rw [this, h3]; simp [h1, h2]
theorem okB_of (x : Int) (h : smallB x = true) : okB x = true := by unfold okB; rw [h]; rfl
theorem okB_no (x : Int) (h1 : smallB x = false) (h2 : digitB x = false) (h3 : ¬ x = 45) : okB x = false := by unfold okB; rw [h1, h2]; simp [h3]
theorem smallB_high (x : Int) (h : 128 ≤ x) : smallB x = false := by unfold smallB; simp; omega
theorem digitB_high (x : Int) (h : 128 ≤ x) : digitB x = false := by unfold digitB; simp; omega
theorem okB_high (x : Int) (h : 128 ≤ x) : okB x = false := okB_no x (smallB_high x h) (digitB_high x h) (by omega)
end Go.Proofs.Ytemeaeafdhgfaaa
