/-
  Guests that rest, that can go, that wait: as lists and as sets of bits. Nothing of the program stands here.
-/
import Derived.Test.YtkfeihnapcfkgaaDoorRoomMath
import Derived.Test.YtkfeihnapcfkgaaDoorNearMath
namespace Go.Proofs.YtkfeihnapcfkgaaDoor
open Go.RowKit

/-- The program's set of the guests that are such. -/
def gsN (q : TGuest → Bool) (ts : List TGuest) (k : Nat) : Bool := q (ts.getD k (0, 0))
theorem gsN_at {q : TGuest → Bool} {ts : List TGuest} {k : Nat} (h : k < ts.length) : gsN q ts k = q ts[k] := by
  unfold gsN
  rw [List.getD_eq_getElem?_getD, List.getElem?_eq_getElem h, Option.getD_some]
def resG (t : TGuest) : Bool := decide (t.1 = t.2)
def lessG (t : TGuest) : Bool := !resG t
def canG (fr : List Int) (t : TGuest) : Bool := lessG t && (decide (t.2 = -1) || decide (0 < fr.getD t.2.toNat 0))
def canN (rs : List Int) (ts : List TGuest) : Nat → Bool := gsN (canG (freeAt rs ts ts.length)) ts
def lessN (ts : List TGuest) : Nat → Bool := gsN lessG ts
theorem canG_rest {fr : List Int} {t : TGuest} (h : t.1 = t.2) : canG fr t = false := by unfold canG lessG resG; simp [h]
theorem canG_out {fr : List Int} {t : TGuest} (h : ¬ t.1 = t.2) (h2 : t.2 = -1) : canG fr t = true := by
  unfold canG lessG resG
  rw [decide_eq_false h, decide_eq_true h2]; rfl
theorem canG_in {fr : List Int} {t : TGuest} {r : Nat} (h : ¬ t.1 = t.2) (h2 : t.2 = (r : Int)) (hr : r < fr.length) : canG fr t = decide (0 < fr[r]) := by
  unfold canG lessG resG
  rw [decide_eq_false h, decide_eq_false (by omega), h2, Int.toNat_natCast, List.getD_eq_getElem?_getD, List.getElem?_eq_getElem hr, Option.getD_some]; rfl
def canOf (rs : List Int) (ts : List TGuest) : List Int × Int := if roB rs ts = true then (filtN (canN rs ts) ts.length, 0) else ([], 1)
theorem canOf_bad {rs : List Int} {ts : List TGuest} (h : roB rs ts = false) : canOf rs ts = ([], 1) := by unfold canOf; rw [h]; rfl
theorem canOf_good {rs : List Int} {ts : List TGuest} (h : roB rs ts = true) : canOf rs ts = (filtN (canN rs ts) ts.length, 0) := by unfold canOf; rw [h]; rfl
theorem canOf_len (rs : List Int) (ts : List TGuest) : (canOf rs ts).1.length ≤ 1048576 := by
  cases h : roB rs ts with
  | false => rw [canOf_bad h]; simp
  | true => rw [canOf_good h]; have := filtN_len (canN rs ts) ts.length; have := (roB_of h).1.2.2; dsimp only; omega
def stuckOf (rs : List Int) (ts : List TGuest) : Bool × Int := if roB rs ts = true then (!decide (setN (lessN ts) ts.length = 0) && decide (setN (canN rs ts) ts.length = 0), 0) else (false, 1)
theorem stuckOf_bad {rs : List Int} {ts : List TGuest} (h : roB rs ts = false) : stuckOf rs ts = (false, 1) := by unfold stuckOf; rw [h]; rfl
theorem stuckOf_good {rs : List Int} {ts : List TGuest} (h : roB rs ts = true) : stuckOf rs ts = (!decide (setN (lessN ts) ts.length = 0) && decide (setN (canN rs ts) ts.length = 0), 0) := by unfold stuckOf; rw [h]; rfl
theorem filtN_nil {p : Nat → Bool} : ∀ {n : Nat}, (filtN p n).length = 0 ↔ setN p n = 0
  | 0 => by simp [filtN, setN]
  | n + 1 => by
    have ih := filtN_nil (p := p) (n := n)
    cases h : p n with
    | true => rw [filtN_yes h]; simp only [setN, h, if_true, List.length_append, List.length_singleton]; have := Nat.two_pow_pos n; omega
    | false => rw [filtN_no h]; simp only [setN, h]; simpa using ih
theorem cntN_nil {p : Nat → Bool} : ∀ {n : Nat}, cntN p n = 0 ↔ setN p n = 0
  | 0 => by simp [cntN, setN]
  | n + 1 => by
    have ih := cntN_nil (p := p) (n := n)
    have := Nat.two_pow_pos n
    cases h : p n with
    | true => simp [cntN, setN, h]
    | false => simpa [cntN, setN, h] using ih
theorem setN_succ_yes {p : Nat → Bool} {k : Nat} (h : p k = true) : setN p k ||| 2 ^ k = setN p (k + 1) := by rw [setN_or, setN, if_pos h]
theorem setN_succ_no {p : Nat → Bool} {k : Nat} (h : p k = false) : setN p (k + 1) = setN p k := by rw [setN, if_neg (by simp [h])]; omega
end Go.Proofs.YtkfeihnapcfkgaaDoor
