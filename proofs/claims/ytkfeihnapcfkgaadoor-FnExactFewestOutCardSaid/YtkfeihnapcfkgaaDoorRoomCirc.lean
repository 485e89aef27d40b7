/-
  Guests that wait for one another: the first one in a room, ways from guest to guest, circles. Nothing of the program stands here.
-/
import Derived.Test.YtkfeihnapcfkgaaDoorRoomBits
namespace Go.Proofs.YtkfeihnapcfkgaaDoor
open Go.RowKit

def waitN (rs : List Int) (ts : List TGuest) (k : Nat) : Bool := lessN ts k && !canN rs ts k
/-- The first number of a kind, -1 if there is none. -/
def firstN (p : Nat → Bool) (m : Nat) : Int := if setN p m = 0 then -1 else ((Lib.ctz 64 (setN p m) : Nat) : Int)
theorem firstN_none {p : Nat → Bool} {m : Nat} (h : ∀ i, i < m → p i = false) : firstN p m = -1 := by unfold firstN; rw [if_pos (setN_zero.2 h)]
theorem firstN_at {p : Nat → Bool} {m k : Nat} (hm : m ≤ 40) (hk : k < m) (pk : p k = true) (hb : ∀ i, i < k → p i = false) : firstN p m = (k : Int) := by
  unfold firstN
  rw [if_neg (fun h => by have := setN_zero.1 h k hk; rw [pk] at this; exact absurd this (by decide)), ctz_setN hm hk pk hb]
theorem firstN_range {p : Nat → Bool} {m : Nat} (hm : m ≤ 40) : firstN p m = -1 ∨ ∃ k : Nat, k < m ∧ firstN p m = (k : Int) ∧ p k = true := by
  unfold firstN
  by_cases h : setN p m = 0
  · exact .inl (if_pos h)
  · rw [if_neg h]
    obtain ⟨h1, h2, _⟩ := ctz_first hm h
    exact .inr ⟨_, h1, rfl, h2⟩
def folP (rs : List Int) (ts : List TGuest) (k i : Nat) : Bool := waitN rs ts i && decide ((ts.getD i (0, 0)).1 = (ts.getD k (0, 0)).2)
/-- The guest that the guest k follows. -/
def folN (rs : List Int) (ts : List TGuest) (k : Nat) : Int := firstN (folP rs ts k) ts.length
/-- How many of the first m numbers are not in a list. -/
def freeC (m : Nat) (out : List Int) : Nat := cntN (fun i => !decide ((i : Int) ∈ out)) m
theorem cntN_mono {p q : Nat → Bool} : ∀ {m : Nat}, (∀ i, i < m → q i = true → p i = true) → cntN q m ≤ cntN p m
  | 0, _ => Nat.le_refl _
  | m + 1, h => by
    have ih := cntN_mono (p := p) (q := q) (m := m) (fun i hi => h i (by omega))
    have hm := h m (by omega)
    simp only [cntN]
    cases hq : q m with
    | true => rw [hm hq]; simp; exact ih
    | false => cases p m <;> simp <;> omega
theorem cntN_less {p q : Nat → Bool} {k : Nat} : ∀ {m : Nat}, (∀ i, i < m → q i = true → p i = true) → k < m → p k = true → q k = false → cntN q m < cntN p m
  | 0, _, hk, _, _ => by omega
  | m + 1, h, hk, hp, hq => by
    simp only [cntN]
    by_cases e : k = m
    · subst e
      rw [hp, hq]
      have := cntN_mono (p := p) (q := q) (m := k) (fun i hi => h i (by omega))
      simp; omega
    · have ih := cntN_less (m := m) (fun i hi => h i (by omega)) (by omega) hp hq
      have hm := h m (by omega)
      cases hq2 : q m with
      | true => rw [hm hq2]; simp; exact ih
      | false => cases p m <;> simp <;> omega
theorem freeC_less {m : Nat} {out : List Int} {k : Nat} (hk : k < m) (h : ¬ (k : Int) ∈ out) : freeC m (out ++ [(k : Int)]) < freeC m out := by
  unfold freeC
  refine cntN_less (k := k) (fun i _ h2 => ?_) hk (by simp [h]) (by simp)
  simp at h2 ⊢
  exact h2.1
/-- The way from a guest on, until there is none or one that was there before. -/
def goC (m : Nat) (nx : Nat → Int) : Nat → List Int → Int → List Int × Int
  | 0, out, at_ => (out, at_)
  | f + 1, out, at_ => if 0 ≤ at_ ∧ at_ < m ∧ ¬ at_ ∈ out then goC m nx f (out ++ [at_]) (nx at_.toNat) else (out, at_)
theorem goC_more (m : Nat) (nx : Nat → Int) : ∀ (f : Nat) (out : List Int) (at_ : Int), freeC m out < f → goC m nx f out at_ = goC m nx (freeC m out + 1) out at_
  | 0, _, _, h => by omega
  | f + 1, out, at_, h => by
    by_cases hc : 0 ≤ at_ ∧ at_ < m ∧ ¬ at_ ∈ out
    · obtain ⟨k, rfl⟩ : ∃ k : Nat, at_ = k := ⟨at_.toNat, by omega⟩
      have hl := freeC_less (m := m) (k := k) (by omega) hc.2.2
      rw [goC, if_pos hc, goC, if_pos hc]
      rw [goC_more m nx f _ _ (by omega)]
      by_cases e : freeC m out = f
      · rw [e]; exact (goC_more m nx f _ _ (by omega)).symm
      · exact (goC_more m nx (freeC m out) _ _ hl).symm ▸ rfl
    · rw [goC, if_neg hc, goC, if_neg hc]
termination_by f => f
decreasing_by all_goals omega
def resC (m : Nat) (nx : Nat → Int) (out : List Int) (at_ : Int) : List Int × Int := goC m nx (freeC m out + 1) out at_
theorem resC_stop {m : Nat} {nx : Nat → Int} {out : List Int} {at_ : Int} (h : ¬ (0 ≤ at_ ∧ at_ < m ∧ ¬ at_ ∈ out)) : resC m nx out at_ = (out, at_) := by unfold resC; rw [goC, if_neg h]
theorem resC_step {m : Nat} {nx : Nat → Int} {out : List Int} {k : Nat} (hk : k < m) (h : ¬ (k : Int) ∈ out) : resC m nx out k = resC m nx (out ++ [(k : Int)]) (nx k) := by
  unfold resC
  have hl := freeC_less hk h
  rw [goC, if_pos ⟨by omega, by omega, h⟩, Int.toNat_natCast, goC_more m nx (freeC m out) _ _ hl]
theorem freeC_le (m : Nat) (out : List Int) : freeC m out ≤ m := cntN_le _ _
def wayC (rs : List Int) (ts : List TGuest) (k : Nat) : List Int × Int := resC ts.length (folN rs ts) [] k
def isC (rs : List Int) (ts : List TGuest) (k : Nat) : Bool := waitN rs ts k && decide ((wayC rs ts k).2 = k)
def circOf (rs : List Int) (ts : List TGuest) : List Int × Int := if roB rs ts = true then (if setN (isC rs ts) ts.length = 0 then ([], 3) else ((wayC rs ts (Lib.ctz 64 (setN (isC rs ts) ts.length))).1, 0)) else ([], 1)
theorem circOf_bad {rs : List Int} {ts : List TGuest} (h : roB rs ts = false) : circOf rs ts = ([], 1) := by unfold circOf; rw [h]; rfl
theorem circOf_none {rs : List Int} {ts : List TGuest} (h : roB rs ts = true) (h2 : ∀ i, i < ts.length → isC rs ts i = false) : circOf rs ts = ([], 3) := by unfold circOf; rw [if_pos h, if_pos (setN_zero.2 h2)]
theorem circOf_at {rs : List Int} {ts : List TGuest} {k : Nat} (h : roB rs ts = true) (hk : k < ts.length) (pk : isC rs ts k = true) (hb : ∀ i, i < k → isC rs ts i = false) : circOf rs ts = ((wayC rs ts k).1, 0) := by
  unfold circOf
  have := (roB_of h).1.2.2
  rw [if_pos h, if_neg (fun h => by have := setN_zero.1 h k hk; rw [pk] at this; exact absurd this (by decide)), ctz_setN (by omega) hk pk hb]
/-- What a way from guest to guest has: numbers of guests, none twice. -/
def OkC (m : Nat) (out : List Int) : Prop := out.length + freeC m out = m ∧ ∀ x ∈ out, ∃ k : Nat, x = (k : Int) ∧ k < m
theorem OkC.nil (m : Nat) : OkC m [] := by
  refine ⟨?_, fun x h => by simp at h⟩
  unfold freeC
  have : cntN (fun i => !decide ((i : Int) ∈ ([] : List Int))) m = cntN (fun _ => true) m := cntN_congr (fun i _ => by simp)
  rw [this]
  have : ∀ n, cntN (fun _ => true) n = n := fun n => by induction n with | zero => rfl | succ n ih => simp only [cntN, ih]; rfl
  rw [this]; simp
theorem cntN_one {p q : Nat → Bool} {k : Nat} : ∀ {m : Nat}, (∀ i, i < m → i ≠ k → q i = p i) → k < m → p k = true → q k = false → cntN q m + 1 = cntN p m
  | 0, _, hk, _, _ => by omega
  | m + 1, h, hk, hp, hq => by
    simp only [cntN]
    by_cases e : k = m
    · subst e
      rw [hp, hq, cntN_congr (fun i hi => h i (by omega) (by omega))]
      simp
    · have ih := cntN_one (m := m) (fun i hi => h i (by omega)) (by omega) hp hq
      have hm := h m (by omega) (fun h => e h.symm)
      rw [hm]
      omega
theorem OkC.next {m : Nat} {out : List Int} {k : Nat} (h : OkC m out) (hk : k < m) (hn : ¬ (k : Int) ∈ out) : OkC m (out ++ [(k : Int)]) := by
  refine ⟨?_, fun x hx => ?_⟩
  · have h1 := h.1
    have h2 : freeC m (out ++ [(k : Int)]) + 1 = freeC m out := cntN_one (k := k) (fun i _ hi => by simp; omega) hk (by simp [hn]) (by simp)
    rw [List.length_append, List.length_singleton]
    omega
  · rw [List.mem_append, List.mem_singleton] at hx
    rcases hx with hx | rfl
    · exact h.2 x hx
    · exact ⟨k, rfl, hk⟩
theorem resC_ok (m : Nat) (nx : Nat → Int) : ∀ (f : Nat) (out : List Int) (at_ : Int), OkC m out → OkC m (goC m nx f out at_).1
  | 0, _, _, h => h
  | f + 1, out, at_, h => by
    rw [goC]
    split
    · rename_i hc
      obtain ⟨k, rfl⟩ : ∃ k : Nat, at_ = k := ⟨at_.toNat, by omega⟩
      exact resC_ok m nx f _ _ (h.next (by omega) hc.2.2)
    · exact h
theorem circOf_len (rs : List Int) (ts : List TGuest) : (circOf rs ts).1.length ≤ 1048576 := by
  cases h : roB rs ts with
  | false => rw [circOf_bad h]; simp
  | true =>
    have h8 := (roB_of h).1.2.2
    unfold circOf
    rw [if_pos h]
    split
    · simp
    · have := (resC_ok ts.length (folN rs ts) (freeC ts.length [] + 1) [] ((Lib.ctz 64 (setN (isC rs ts) ts.length) : Nat) : Int) (OkC.nil _)).1
      unfold wayC resC
      dsimp only
      omega
end Go.Proofs.YtkfeihnapcfkgaaDoor
