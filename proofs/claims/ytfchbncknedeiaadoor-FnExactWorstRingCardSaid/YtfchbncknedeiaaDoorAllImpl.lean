/-
  The walks of all words: the program's count, words, check.
-/
import Derived.Test.YtfchbncknedeiaaDoorAllMath
import Derived.Test.YtfchbncknedeiaaDoorAdrFar
import Derived.Deep.AppendLies
import Derived.Lib.OthersKept
import Derived.Laws.Runes
import Derived.WalkLawsBesides
import Derived.OwnWalk
namespace Go.Proofs.YtfchbncknedeiaaDoor
open Go.RowKit

theorem codeW_range {g r d most : Int} (h : ¬ (2 ≤ g ∧ g ≤ 4 ∧ 1 ≤ r ∧ r ≤ 8 ∧ 1 ≤ d ∧ d ≤ r)) : codeW g r d most = 2 := if_neg h
theorem codeW_full {g r d most : Int} (h : 2 ≤ g ∧ g ≤ 4 ∧ 1 ≤ r ∧ r ≤ 8 ∧ 1 ≤ d ∧ d ≤ r) (h2 : most < ((g.toNat ^ r.toNat : Nat) : Int)) : codeW g r d most = 5 := by unfold codeW; rw [if_pos h, if_pos h2]
theorem codeW_ok {g r d most : Int} (h : 2 ≤ g ∧ g ≤ 4 ∧ 1 ≤ r ∧ r ≤ 8 ∧ 1 ≤ d ∧ d ≤ r) (h2 : ¬ most < ((g.toNat ^ r.toNat : Nat) : Int)) : codeW g r d most = 0 := by unfold codeW; rw [if_pos h, if_neg h2]
theorem inN {x lo hi : Int} (h : ¬ (lo ≤ x ∧ x ≤ hi)) : inB x lo hi = false := by simp only [inB, decide_eq_false_iff_not]; exact h
theorem inY {x lo hi : Int} (h : lo ≤ x ∧ x ≤ hi) : inB x lo hi = true := by simp only [inB, decide_eq_true_eq]; exact h

end Go.Proofs.YtfchbncknedeiaaDoor
