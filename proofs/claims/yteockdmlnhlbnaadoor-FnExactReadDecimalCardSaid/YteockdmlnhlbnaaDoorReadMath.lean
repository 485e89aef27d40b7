/-
  What a text is read as: a number in its decimal form of at most 18 digits; and that the library's ParseInt, with the form compared, reads the same.
-/
import Derived.Test.YteockdmlnhlbnaaDoorDecMath
import Derived.Lib.ParseIntBTie
import Derived.Lib.AtoiTie
import Derived.Lib.Strings
namespace Go.Proofs.YteockdmlnhlbnaaDoor
open Go

/-- Is the first byte a minus sign? -/
def negB (l : List UInt8) : Bool := l.head? == some 45
/-- A text without its minus sign. -/
def stripM (l : List UInt8) : List UInt8 := if negB l = true then l.tail else l
def signOf (b : Bool) (m : Nat) : Int := if b = true then -(m : Int) else m
/-- The number that a text is read as; nothing if there is none. -/
def readOf (l : List UInt8) : Option Int :=
  if (stripM l).length ≤ 18 then
    match Lib.decNat (stripM l) with
    | some m => if Lib.itoa (signOf (negB l) m) = l then some (signOf (negB l) m) else none
    | none => none
  else none

theorem digit_byte {d : Nat} (h : d < 10) : 48 ≤ (UInt8.ofNat (48 + d)).toNat ∧ (UInt8.ofNat (48 + d)).toNat ≤ 57 := by
  rw [UInt8.toNat_ofNat']; omega
theorem decDigits_all (u : Nat) : ∀ b ∈ Lib.decDigits u, 48 ≤ b.toNat ∧ b.toNat ≤ 57 := by
  induction u using Nat.strongRecOn with
  | _ u ih =>
    intro b hb
    rw [Lib.decDigits] at hb
    split at hb
    · rename_i h
      rw [List.mem_singleton] at hb
      subst hb
      exact digit_byte h
    · rename_i h
      rcases List.mem_append.1 hb with h1 | h1
      · exact ih _ (by omega) _ h1
      · rw [List.mem_singleton] at h1
        subst h1
        exact digit_byte (Nat.mod_lt _ (by omega))
theorem itoa_plus (v : Int) (r : List UInt8) : Lib.itoa v ≠ 43 :: r := by
  intro h
  unfold Lib.itoa at h
  split at h
  · injection h with h1 _
    exact absurd h1 (by decide)
  · have := decDigits_all v.toNat 43 (by rw [h]; exact List.mem_cons_self)
    exact absurd this (by decide)

theorem strip_minus (r : List UInt8) : stripM (45 :: r) = r := rfl
theorem neg_minus (r : List UInt8) : negB (45 :: r) = true := rfl
theorem neg_other {c : UInt8} {r : List UInt8} (h : c ≠ 45) : negB (c :: r) = false := by simp [negB, h]
theorem strip_other {c : UInt8} {r : List UInt8} (h : c ≠ 45) : stripM (c :: r) = c :: r := by unfold stripM; rw [neg_other h]; rfl

theorem decNat_le18 {l : List UInt8} {m : Nat} (hl : l.length ≤ 18) (h : Lib.decNat l = some m) : m < 1000000000000000000 := Lib.decFrom_lt18 (Lib.decNat_some h).2 hl

theorem readOf_parse {l : List UInt8} (h : (stripM l).length ≤ 18) : readOf l = match Lib.parseIntB 64 l with
    | .ok v => if Lib.itoa v = l then some v else none
    | _ => none := by
  unfold readOf
  rw [if_pos h]
  cases l with
  | nil => rfl
  | cons c r =>
    by_cases h45 : c = 45
    · subst h45
      rw [strip_minus] at h
      rw [Lib.parseIntB_minus, Lib.parseUintB_64, Lib.parseMag_short _ h, strip_minus, neg_minus]
      cases hd : Lib.decNat r with
      | none => rfl
      | some m =>
        have := decNat_le18 h hd
        have e : ¬ (2 ^ (64 - 1) : Nat) < m := by omega
        simp only [Lib.NumEnd.ofOption, Lib.signedC, if_neg e, signOf, if_true]
    · rw [strip_other h45] at h
      rw [strip_other h45, neg_other h45]
      by_cases h43 : c = 43
      · subst h43
        rw [Lib.parseIntB_plus]
        have e : Lib.decNat (43 :: r) = none := rfl
        rw [e]
        rcases Lib.signlessC (2 ^ (64 - 1)) (Lib.parseUintB 64 r) with v | _ | _
        · simp [itoa_plus]
        · rfl
        · rfl
      · rw [Lib.parseIntB_plain 64 c r (fun e => h43 (UInt8.toNat_inj.1 e)) (fun e => h45 (UInt8.toNat_inj.1 e)), Lib.parseUintB_64, Lib.parseMag_short _ h]
        cases hd : Lib.decNat (c :: r) with
        | none => rfl
        | some m =>
          have := decNat_le18 h hd
          have e : ¬ (2 ^ (64 - 1) : Nat) ≤ m := by omega
          simp only [Lib.NumEnd.ofOption, Lib.signlessC, if_neg e, signOf]
          simp

theorem readOf_long {l : List UInt8} (h : ¬ (stripM l).length ≤ 18) : readOf l = none := by unfold readOf; rw [if_neg h]
theorem trim_strip (l : List UInt8) : Lib.trimPrefix l [45] = stripM l := by
  cases l with
  | nil => rfl
  | cons c r =>
    by_cases h : c = 45
    · subst h; rfl
    · rw [strip_other h]
      simp [Lib.trimPrefix, Lib.hasPrefix, Ne.symm h]
end Go.Proofs.YteockdmlnhlbnaaDoor
