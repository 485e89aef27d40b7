/-
  The decimal form of a number as a list of bytes, as the model builds it: the digits one by one, the last first.
-/
import Derived.Lib.ItoaNum
import Derived.Lib.Strings
namespace Go.Proofs.YtfejgckimlgopaaDoor
open Go

/-- The digits of u; none for 0. -/
def digs (u : Nat) : List UInt8 := if u = 0 then [] else Lib.decDigits u
theorem digs_step {u : Nat} (h : u ≠ 0) : digs u = digs (u / 10) ++ [UInt8.ofNat (48 + u % 10)] := by
  unfold digs
  rw [if_neg h]
  by_cases h10 : u < 10
  · rw [if_pos (by omega), Lib.decDigits, dif_pos h10, Nat.mod_eq_of_lt h10]; rfl
  · rw [if_neg (by omega), Lib.decDigits, dif_neg h10]
theorem digs_zero : digs 0 = [] := rfl
theorem itoa_zero : Lib.itoa 0 = [48] := by decide +kernel
theorem itoa_neg {n : Int} (h : n < 0) : Lib.itoa n = 45 :: digs n.natAbs := by
  unfold Lib.itoa digs; rw [if_pos h, if_neg (by omega)]
theorem itoa_pos {n : Int} (h : 0 < n) : Lib.itoa n = digs n.natAbs := by
  unfold Lib.itoa digs; rw [if_neg (by omega), if_neg (by omega)]; congr 1; omega
theorem digs_length_pos {u : Nat} (h : u ≠ 0) : 0 < (digs u).length := by rw [digs_step h]; simp
theorem natAbs_tdiv (k : Int) : (k.tdiv 10).natAbs = k.natAbs / 10 := by rw [Int.natAbs_tdiv]; rfl
theorem natAbs_tmod (k : Int) : (k.tmod 10).natAbs = k.natAbs % 10 := by rw [Int.natAbs_tmod]; rfl
end Go.Proofs.YtfejgckimlgopaaDoor
