/-
  What the law on runs asks of the runs of hours. Nothing of the program stands here.
-/
import Derived.Test.YtiilgeoahpnkpaaBlowRuns
namespace Go.Proofs.Ytiilgeoahpnkpaa
open Go.RowKit

structure LongP (q : Nat → Bool) (i : Nat) : Prop where
  now0 : 0 ≤ (longS q i).2.2 ∧ (longS q i).2.2 ≤ i
  nowq : ∀ j : Nat, (i : Int) - (longS q i).2.2 ≤ j → j < i → q j = true
  b0 : 0 ≤ (longS q i).1 ∧ 0 ≤ (longS q i).2.1 ∧ (longS q i).1 + (longS q i).2.1 ≤ i
  bq : ∀ j : Nat, (longS q i).1 ≤ j → (j : Int) < (longS q i).1 + (longS q i).2.1 → q j = true
  mh : (longS q i).2.1 ≤ hoursN q i
  nh : (longS q i).2.2 ≤ hoursN q i
  mz : (longS q i).2.1 = 0 → hoursN q i = 0
  sh : startsN q i ≤ hoursN q i
  sz : startsN q i = 0 → hoursN q i = 0
  bz : befB q i = true → 0 < hoursN q i
theorem longP (q : Nat → Bool) : ∀ i, LongP q i
  | 0 => by constructor <;> simp [longS, hoursN, startsN, befB] <;> omega
  | i + 1 => by
    obtain ⟨h1, h2, h3, h4, h5, h6, h7, h8, h9, h10⟩ := longP q i
    have hmo := (runsP q i).most
    cases h : q i with
    | false =>
      have el : longS q (i + 1) = ((longS q i).1, (longS q i).2.1, 0) := by rw [longS, h]; rfl
      have eh : hoursN q (i + 1) = hoursN q i := by rw [hoursN, h]; rfl
      have es : startsN q (i + 1) = startsN q i := by rw [startsN, h]; rfl
      constructor
      · rw [el]; dsimp only; omega
      · rw [el]; dsimp only; intro j hj1 hj2; omega
      · rw [el]; dsimp only; omega
      · rw [el]; exact h4
      · rw [el, eh]; exact h5
      · rw [el, eh]; dsimp only; omega
      · rw [el, eh]; exact h7
      · rw [es, eh]; exact h8
      · rw [es, eh]; exact h9
      · intro hb; rw [befB, h] at hb; cases hb
    | true =>
      have eh : hoursN q (i + 1) = hoursN q i + 1 := by rw [hoursN, h]; rfl
      have hqn : ∀ j : Nat, ((i : Int) + 1) - ((longS q i).2.2 + 1) ≤ j → j < i + 1 → q j = true := fun j hj1 hj2 => by
        by_cases e : j = i
        · subst e; exact h
        · exact h2 j (by omega) (by omega)
      have hsn : startsN q (i + 1) ≤ hoursN q i + 1 ∧ (startsN q (i + 1) = 0 → False) := by
        rw [startsN, h]
        cases hb : befB q i with
        | false =>
          have e : (if (true && !false) = true then 1 else 0) = 1 := rfl
          rw [e]
          exact ⟨by omega, fun hz => by omega⟩
        | true =>
          have e : (if (true && !true) = true then 1 else 0) = 0 := rfl
          rw [e]
          refine ⟨by omega, fun hz => ?_⟩
          have := h10 hb
          have := h9 (by omega)
          omega
      by_cases hc : (longS q i).2.1 < (longS q i).2.2 + 1
      · have el : longS q (i + 1) = ((i : Int) - ((longS q i).2.2 + 1) + 1, (longS q i).2.2 + 1, (longS q i).2.2 + 1) := by rw [longS, if_pos h, if_pos hc]
        constructor
        · rw [el]; dsimp only; omega
        · rw [el]; dsimp only; intro j hj1 hj2; exact hqn j (by omega) hj2
        · rw [el]; dsimp only; omega
        · rw [el]; dsimp only; intro j hj1 hj2; exact hqn j (by omega) (by omega)
        · rw [el, eh]; dsimp only; omega
        · rw [el, eh]; dsimp only; omega
        · rw [el]; dsimp only; intro hz; omega
        · rw [eh]; exact hsn.1
        · intro hz; exact (hsn.2 hz).elim
        · intro _; rw [eh]; omega
      · have el : longS q (i + 1) = ((longS q i).1, (longS q i).2.1, (longS q i).2.2 + 1) := by rw [longS, if_pos h, if_neg hc]
        constructor
        · rw [el]; dsimp only; omega
        · rw [el]; dsimp only; intro j hj1 hj2; exact hqn j (by omega) hj2
        · rw [el]; dsimp only; omega
        · rw [el]; exact h4
        · rw [el, eh]; dsimp only; omega
        · rw [el, eh]; dsimp only; omega
        · rw [el]; dsimp only; intro hz; omega
        · rw [eh]; exact hsn.1
        · intro hz; exact (hsn.2 hz).elim
        · intro _; rw [eh]; omega
/-- What the law on runs meets: a code, or nothing that runs, or a longest run. -/
theorem runs_ways (ts : List TBlower) (l : List Int) (f : Int) :
    (∃ b : Int, b ≠ 0 ∧ longOf ts l f = (0, 0, b) ∧ startOf ts l f = (0, b) ∧ hourOf ts l f = (0, b)) ∨
    (longOf ts l f = (0, 0, 3) ∧ startOf ts l f = (0, 0) ∧ hourOf ts l f = (0, 0)) ∨
    ∃ (k X Y : Nat) (s h : Int), f = (k : Int) ∧ k < 4 ∧ longOf ts l f = ((X : Int), (Y : Int), 0) ∧ startOf ts l f = (s, 0) ∧ hourOf ts l f = (h, 0) ∧ 0 < s ∧ s ≤ h ∧ h ≤ 24 ∧ 1 ≤ Y ∧ X + Y ≤ l.length ∧ l.length ≤ 24 ∧ (Y : Int) ≤ h ∧ ∀ i, X ≤ i → i < X + Y → ∃ z : Nat, l.getD i 0 = (z : Int) ∧ z < 16 ∧ z.testBit k = true := by
  by_cases hk : kcode ts l f = 0
  · obtain ⟨hv, hd, k, rfl, hkl⟩ := kcode_of hk
    have h4 := (blsB_of hv).1
    have h16 := pow_le16 h4
    have h24 := (dayB_of hd).1
    have LP := longP (qB l k) l.length
    have hh := hoursN_le (qB l k) l.length
    right
    unfold longOf startOf hourOf
    simp only [hk, if_true, Int.toNat_natCast]
    by_cases hm : (longS (qB l k) l.length).2.1 = 0
    · left
      have h0 := LP.mz hm
      have hs0 : startsN (qB l k) l.length = 0 := by have := LP.sh; omega
      rw [if_pos hm, h0, hs0]
      exact ⟨rfl, rfl, rfl⟩
    · right
      rw [if_neg hm]
      obtain ⟨b1, b2, b3⟩ := LP.b0
      have hmh := LP.mh
      have hs : 0 < startsN (qB l k) l.length := by
        rcases Nat.eq_zero_or_pos (startsN (qB l k) l.length) with h0 | h0
        · have := LP.sz h0; omega
        · exact h0
      have hsh := LP.sh
      refine ⟨k, (longS (qB l k) l.length).1.toNat, (longS (qB l k) l.length).2.1.toNat, _, _, rfl, by omega, ?_, rfl, rfl, by omega, by omega, by omega, by omega, by omega, h24, by omega, fun i hi1 hi2 => ?_⟩
      · have e1 : (((longS (qB l k) l.length).1.toNat : Nat) : Int) = (longS (qB l k) l.length).1 := by omega
        have e2 : (((longS (qB l k) l.length).2.1.toNat : Nat) : Int) = (longS (qB l k) l.length).2.1 := by omega
        rw [e1, e2]
      · have hil : i < l.length := by omega
        obtain ⟨z, hz, hz2⟩ := (dayB_of hd).2 i hil
        rw [← getD_atI hil] at hz
        refine ⟨z, hz, by omega, ?_⟩
        have := LP.bq i (by omega) (by omega)
        unfold qB at this
        rw [hz] at this
        simpa using this
  · left
    refine ⟨kcode ts l f, hk, ?_, ?_, ?_⟩
    · unfold longOf; rw [if_neg hk]
    · unfold startOf; rw [if_neg hk]
    · unfold hourOf; rw [if_neg hk]
end Go.Proofs.Ytiilgeoahpnkpaa
