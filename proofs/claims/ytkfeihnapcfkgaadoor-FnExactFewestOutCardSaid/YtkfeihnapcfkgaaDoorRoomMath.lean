/-
  Rooms and guests: when they are valid, the free places after some of the guests. Nothing of the program stands here.
-/
import Derived.Test.YtkfeihnapcfkgaaDoorRowAt
import Derived.Test.YtkfeihnapcfkgaaDoorGuestRec
namespace Go.Proofs.YtkfeihnapcfkgaaDoor
open Go.RowKit

def gB (R : Int) (t : TGuest) : Bool := inB t.1 (-1) (R - 1) && inB t.2 (-1) (R - 1)
def stepF (fr : List Int) (t : TGuest) : List Int := if t.1 = -1 then fr else fr.set t.1.toNat (fr.getD t.1.toNat 0 - 1)
def freeAt (rs : List Int) (ts : List TGuest) : Nat → List Int
  | 0 => rs
  | k + 1 => stepF (freeAt rs ts k) (ts.getD k (0, 0))
def geB (l : List Int) : Bool := l.all (fun x => decide (0 ≤ x))
def plB (rs : List Int) : Bool := rs.all (fun x => inB x 1 4)
def guB (R : Int) (ts : List TGuest) : Bool := ts.all (gB R)
def roB (rs : List Int) (ts : List TGuest) : Bool :=
  (inB (rs.length : Int) 1 8 && decide (ts.length ≤ 8)) && (plB rs && (guB rs.length ts && geB (freeAt rs ts ts.length)))
theorem freeAt_succ (rs : List Int) {ts : List TGuest} {k : Nat} (h : k < ts.length) : freeAt rs ts (k + 1) = stepF (freeAt rs ts k) ts[k] := by
  rw [freeAt, List.getD_eq_getElem?_getD, List.getElem?_eq_getElem h, Option.getD_some]
theorem stepF_len (fr : List Int) (t : TGuest) : (stepF fr t).length = fr.length := by unfold stepF; split <;> simp
theorem freeAt_len (rs : List Int) (ts : List TGuest) (k : Nat) : (freeAt rs ts k).length = rs.length := by
  induction k with
  | zero => rfl
  | succ k ih => rw [freeAt, stepF_len, ih]
theorem stepF_out {fr : List Int} {t : TGuest} (h : t.1 = -1) : stepF fr t = fr := if_pos h
theorem stepF_in {fr : List Int} {t : TGuest} {r : Nat} (h : t.1 = (r : Int)) (hr : r < fr.length) : stepF fr t = fr.set r (fr[r] - 1) := by
  unfold stepF
  rw [if_neg (by omega), h, Int.toNat_natCast, List.getD_eq_getElem?_getD, List.getElem?_eq_getElem hr, Option.getD_some]
theorem stepF_get {fr : List Int} {t : TGuest} (i : Nat) (hi : i < fr.length) (hi' : i < (stepF fr t).length) : fr[i] - 1 ≤ (stepF fr t)[i] ∧ (stepF fr t)[i] ≤ fr[i] := by
  by_cases h : t.1 = -1
  · simp only [stepF_out h]; omega
  · have e : stepF fr t = fr.set t.1.toNat (fr.getD t.1.toNat 0 - 1) := if_neg h
    simp only [e, List.getElem_set]
    split
    · rename_i h2
      rw [List.getD_eq_getElem?_getD, h2, List.getElem?_eq_getElem hi, Option.getD_some]; omega
    · omega
/-- Rooms with 1 to 4 places each. -/
def Pl (rs : List Int) : Prop := ∀ i (h : i < rs.length), 1 ≤ rs[i] ∧ rs[i] ≤ 4
theorem plB_iff {rs : List Int} : plB rs = true ↔ Pl rs := by
  unfold plB Pl
  constructor
  · intro h i hi
    exact inB_of (all_at (f := fun x => inB x 1 4) h i hi)
  · intro h
    exact all_yes (fun k hk => inB_yes (h k hk))
theorem freeAt_bd {rs : List Int} (h : Pl rs) (ts : List TGuest) (k : Nat) : ∀ i (hi : i < (freeAt rs ts k).length), 1 - (k : Int) ≤ (freeAt rs ts k)[i] ∧ (freeAt rs ts k)[i] ≤ 4 := by
  induction k with
  | zero => intro i hi; have := h i hi; simp only [freeAt]; omega
  | succ k ih =>
    intro i hi
    have hi0 : i < (freeAt rs ts k).length := by rw [freeAt_len] at hi ⊢; exact hi
    have h1 := ih i hi0
    have h2 := stepF_get (t := ts.getD k (0, 0)) i hi0 hi
    simp only [freeAt]
    omega
theorem geB_pl {rs : List Int} (h : Pl rs) : geB rs = true := all_yes (fun k hk => by have := h k hk; exact decide_eq_true (by omega))
theorem geB_out {fr : List Int} {t : TGuest} (h : t.1 = -1) : geB (stepF fr t) = geB fr := by rw [stepF_out h]
theorem geB_in {fr : List Int} {t : TGuest} {r : Nat} (h : t.1 = (r : Int)) (hr : r < fr.length) : geB (stepF fr t) = (geB fr && decide (0 ≤ fr[r] - 1)) := by
  rw [stepF_in h hr]
  cases hd : decide (0 ≤ fr[r] - 1) with
  | false =>
    rw [Bool.and_false]
    have hlt : r < (fr.set r (fr[r] - 1)).length := by simpa using hr
    exact all_no (f := fun x => decide (0 ≤ x)) r hlt (by rw [List.getElem_set_self]; exact hd)
  | true =>
    have hd' := of_decide_eq_true hd
    rw [Bool.and_true, Bool.eq_iff_iff]
    unfold geB
    simp only [List.all_eq_true, decide_eq_true_eq]
    constructor
    · intro h2 x hx
      obtain ⟨i, hi, rfl⟩ := List.getElem_of_mem hx
      by_cases e : i = r
      · subst e; omega
      · have := h2 ((fr.set r (fr[r] - 1))[i]'(by simpa using hi)) (List.getElem_mem _)
        rw [List.getElem_set_ne (by omega)] at this
        exact this
    · intro h2 x hx
      obtain ⟨i, hi, rfl⟩ := List.getElem_of_mem hx
      have hi' : i < fr.length := by simpa using hi
      by_cases e : r = i
      · subst e; rw [List.getElem_set_self]; exact hd'
      · rw [List.getElem_set_ne e]; exact h2 _ (List.getElem_mem hi')
theorem gB_of {R : Int} {t : TGuest} (h : gB R t = true) : (-1 ≤ t.1 ∧ t.1 ≤ R - 1) ∧ -1 ≤ t.2 ∧ t.2 ≤ R - 1 := by
  unfold gB at h
  rw [Bool.and_eq_true] at h
  exact ⟨inB_of h.1, inB_of h.2⟩
theorem guB_at {R : Int} {ts : List TGuest} (h : guB R ts = true) (k : Nat) (hk : k < ts.length) : (-1 ≤ ts[k].1 ∧ ts[k].1 ≤ R - 1) ∧ -1 ≤ ts[k].2 ∧ ts[k].2 ≤ R - 1 := gB_of (all_at (f := gB R) h k hk)
/-- What valid rooms are. -/
theorem roB_of {rs : List Int} {ts : List TGuest} (h : roB rs ts = true) : (1 ≤ rs.length ∧ rs.length ≤ 8 ∧ ts.length ≤ 8) ∧ Pl rs ∧ guB rs.length ts = true ∧ geB (freeAt rs ts ts.length) = true := by
  unfold roB at h
  rw [Bool.and_eq_true, Bool.and_eq_true, Bool.and_eq_true, Bool.and_eq_true] at h
  obtain ⟨⟨h1, h2⟩, h3, h4, h5⟩ := h
  have := inB_of h1
  have := of_decide_eq_true h2
  exact ⟨by omega, plB_iff.1 h3, h4, h5⟩
theorem roB_yes {rs : List Int} {ts : List TGuest} (h : 1 ≤ rs.length ∧ rs.length ≤ 8) (h2 : ts.length ≤ 8) (h3 : Pl rs) (h4 : guB rs.length ts = true) : roB rs ts = geB (freeAt rs ts ts.length) := by
  unfold roB
  rw [inB_yes (by omega), decide_eq_true h2, plB_iff.2 h3, h4]
  simp
theorem roB_rooms {rs : List Int} {ts : List TGuest} (h : ¬ (1 ≤ rs.length ∧ rs.length ≤ 8)) : roB rs ts = false := by
  unfold roB
  rw [inB_no (by omega)]
  simp
theorem roB_many {rs : List Int} {ts : List TGuest} (h : ¬ ts.length ≤ 8) : roB rs ts = false := by
  unfold roB
  rw [decide_eq_false h]
  simp
theorem roB_places {rs : List Int} {ts : List TGuest} (h : plB rs = false) : roB rs ts = false := by
  unfold roB
  rw [h]
  simp
theorem roB_guest {rs : List Int} {ts : List TGuest} (h : guB rs.length ts = false) : roB rs ts = false := by
  unfold roB
  rw [h]
  simp
def rcode (rs : List Int) (ts : List TGuest) : Int := if roB rs ts = true then 0 else 1
def freeOf (rs : List Int) (ts : List TGuest) : List Int × Int := if roB rs ts = true then (freeAt rs ts ts.length, 0) else ([], 1)
theorem freeOf_bad {rs : List Int} {ts : List TGuest} (h : roB rs ts = false) : freeOf rs ts = ([], 1) := by unfold freeOf; rw [h]; rfl
theorem freeOf_good {rs : List Int} {ts : List TGuest} (h : roB rs ts = true) : freeOf rs ts = (freeAt rs ts ts.length, 0) := by unfold freeOf; rw [h]; rfl
theorem freeOf_len (rs : List Int) (ts : List TGuest) (h : rs.length ≤ 1048576) : (freeOf rs ts).1.length ≤ 1048576 := by
  unfold freeOf
  split
  · simp only [freeAt_len]; exact h
  · simp
theorem rflat_ints (l : List Int) (k : Nat) (h : k < l.length) : (l.map (Value.int .i64))[k]? = some (.int .i64 l[k]) := by simp [h]
end Go.Proofs.YtkfeihnapcfkgaaDoor
