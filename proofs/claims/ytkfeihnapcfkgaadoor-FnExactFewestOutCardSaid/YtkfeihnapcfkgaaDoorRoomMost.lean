/-
  How many guests can still go when some have gone. Nothing of the program stands here.
-/
import Derived.Test.YtkfeihnapcfkgaaDoorRoomsP
import Derived.Test.YtkfeihnapcfkgaaDoorRoomCirc
namespace Go.Proofs.YtkfeihnapcfkgaaDoor
open Go.RowKit

/-- The guests after those of a set have gone. -/
def aftG (ts : List TGuest) (s : Nat) : List TGuest := chP goneG (fun i => s.testBit i) ts
theorem aftG_len (ts : List TGuest) (s : Nat) : (aftG ts s).length = ts.length := chP_len _ _ _
theorem aftG_get (ts : List TGuest) (s i : Nat) (h : i < ts.length) : (aftG ts s)[i]'(by rw [aftG_len]; exact h) = if s.testBit i = true then goneG ts[i] else ts[i] := by
  have := chP_get goneG (fun i => s.testBit i) ts i h
  rw [List.getElem?_eq_getElem (by rw [chP_len]; exact h)] at this
  exact Option.some.inj this
def canS (rs : List Int) (ts : List TGuest) (s k : Nat) : Bool := canN rs (aftG ts s) k
theorem canS_new {rs : List Int} {ts : List TGuest} {s k : Nat} (hk : k < ts.length) (h : canS rs ts s k = true) : s.testBit k = false := by
  cases hb : s.testBit k with
  | false => rfl
  | true =>
    exfalso
    have hk2 : k < (aftG ts s).length := by rw [aftG_len]; exact hk
    unfold canS canN at h
    rw [gsN_at hk2, aftG_get ts s k hk, if_pos hb] at h
    unfold goneG at h
    rw [canG_rest rfl] at h
    exact absurd h (by decide)
theorem aftG_next (ts : List TGuest) (s k : Nat) (hk : k < ts.length) (hn : s.testBit k = false) : goneL (aftG ts s) k = aftG ts (s ||| 2 ^ k) := by
  apply List.ext_getElem?
  intro i
  unfold goneL
  by_cases hi : i < ts.length
  · have h1 : i < (aftG ts s).length := by rw [aftG_len]; exact hi
    have h2 : i < (aftG ts (s ||| 2 ^ k)).length := by rw [aftG_len]; exact hi
    have hk1 : k < (aftG ts s).length := by rw [aftG_len]; exact hk
    rw [List.getElem?_set, List.getElem?_eq_getElem h2, aftG_get ts _ i hi, Nat.testBit_or, Nat.testBit_two_pow]
    by_cases e : k = i
    · subst e
      rw [if_pos rfl, if_pos h1, List.getD_eq_getElem?_getD, List.getElem?_eq_getElem hk1, Option.getD_some, aftG_get ts s k hk, hn]
      simp
    · rw [if_neg e, List.getElem?_eq_getElem h1, aftG_get ts s i hi]
      simp [e]
  · rw [List.getElem?_eq_none (by rw [List.length_set, aftG_len]; omega), List.getElem?_eq_none (by rw [aftG_len]; omega)]
theorem aftG_zero (ts : List TGuest) : aftG ts 0 = ts := by
  apply List.ext_getElem?
  intro i
  by_cases hi : i < ts.length
  · rw [List.getElem?_eq_getElem (by rw [aftG_len]; exact hi), aftG_get ts 0 i hi, List.getElem?_eq_getElem hi]
    simp
  · rw [List.getElem?_eq_none (by rw [aftG_len]; omega), List.getElem?_eq_none (by omega)]
/-- How many guests are not in a set. -/
def remS (m s : Nat) : Nat := cntN (fun i => !s.testBit i) m
theorem remS_next {m s k : Nat} (hk : k < m) (hn : s.testBit k = false) : remS m (s ||| 2 ^ k) + 1 = remS m s := by
  unfold remS
  refine cntN_one (k := k) (fun i _ hi => ?_) hk (by simp [hn]) (by simp [Nat.testBit_or])
  rw [Nat.testBit_or, Nat.testBit_two_pow]
  have : ¬ k = i := fun h => hi h.symm
  simp [this]
theorem remS_le (m s : Nat) : remS m s ≤ m := cntN_le _ _
theorem or_lt {m s k : Nat} (hs : s < 2 ^ m) (hk : k < m) : s ||| 2 ^ k < 2 ^ m := Nat.or_lt_two_pow hs (Nat.pow_lt_pow_right (by decide) hk)
theorem or_comm_pow {r k : Nat} (h : r < 2 ^ k) : 2 ^ k ||| r = 2 ^ k + r := by
  have := Nat.two_pow_add_eq_or_of_lt h 1
  rw [Nat.mul_one] at this
  exact this.symm
theorem or_add {s k : Nat} (hn : s.testBit k = false) : s ||| 2 ^ k = s + 2 ^ k := by
  have h2 : s / 2 ^ k % 2 = 0 := by
    rw [Nat.testBit_eq_decide_div_mod_eq] at hn
    have := of_decide_eq_false hn
    omega
  have h3 : s % 2 ^ (k + 1) = s % 2 ^ k := by rw [Nat.mod_pow_succ, h2, Nat.mul_zero, Nat.add_zero]
  have h4 : s % 2 ^ k < 2 ^ k := Nat.mod_lt _ (Nat.two_pow_pos k)
  have h5 := Nat.div_add_mod s (2 ^ (k + 1))
  rw [h3] at h5
  have hp : 2 ^ k < 2 ^ (k + 1) := Nat.pow_lt_pow_right (by decide) (by omega)
  have h6 : 2 ^ (k + 1) = 2 ^ k + 2 ^ k := by rw [Nat.pow_succ]; omega
  generalize s / 2 ^ (k + 1) = q at h5
  generalize s % 2 ^ k = r at h4 h5
  rw [← h5, Nat.two_pow_add_eq_or_of_lt (by omega) q, Nat.or_assoc, Nat.or_comm r, or_comm_pow h4, ← Nat.two_pow_add_eq_or_of_lt (by omega) q, ← Nat.two_pow_add_eq_or_of_lt (by omega) q]
  omega
def foldM (f : Nat → Nat) (ks : List Nat) : Nat := ks.foldl (fun b k => max b (1 + f k)) 0
theorem foldM_app (f : Nat → Nat) (ks : List Nat) (k : Nat) : foldM f (ks ++ [k]) = max (foldM f ks) (1 + f k) := by unfold foldM; rw [List.foldl_append]; rfl
theorem foldM_congr {f g : Nat → Nat} {ks : List Nat} (h : ∀ k ∈ ks, f k = g k) : foldM f ks = foldM g ks := by
  have : ∀ (ks : List Nat) (b : Nat), (∀ k ∈ ks, f k = g k) → ks.foldl (fun b k => max b (1 + f k)) b = ks.foldl (fun b k => max b (1 + g k)) b := by
    intro ks
    induction ks with
    | nil => intro b _; rfl
    | cons k ks ih => intro b h; simp only [List.foldl_cons]; rw [h k (by simp)]; exact ih _ (fun j hj => h j (by simp [hj]))
  exact this ks 0 h
theorem foldM_le {f : Nat → Nat} {ks : List Nat} {r : Nat} (h : ∀ k ∈ ks, 1 + f k ≤ r) : foldM f ks ≤ r := by
  have : ∀ (ks : List Nat) (b : Nat), b ≤ r → (∀ k ∈ ks, 1 + f k ≤ r) → ks.foldl (fun b k => max b (1 + f k)) b ≤ r := by
    intro ks
    induction ks with
    | nil => intro b hb _; exact hb
    | cons k ks ih => intro b hb h; simp only [List.foldl_cons]; exact ih _ (by have := h k (by simp); omega) (fun j hj => h j (by simp [hj]))
  exact this ks 0 (by omega) h
def mostF (rs : List Int) (ts : List TGuest) : Nat → Nat → Nat
  | 0, _ => 0
  | r + 1, s => foldM (fun k => mostF rs ts r (s ||| 2 ^ k)) (filtK (canS rs ts s) ts.length)
/-- The greatest number of guests that can go when those of a set have gone. -/
def mostS (rs : List Int) (ts : List TGuest) (s : Nat) : Nat := mostF rs ts (remS ts.length s) s
theorem mostS_eq (rs : List Int) (ts : List TGuest) (s : Nat) : mostS rs ts s = foldM (fun k => mostS rs ts (s ||| 2 ^ k)) (filtK (canS rs ts s) ts.length) := by
  unfold mostS
  cases hr : remS ts.length s with
  | zero =>
    have : filtK (canS rs ts s) ts.length = [] := by
      apply List.eq_nil_iff_forall_not_mem.2
      intro k hk
      obtain ⟨h1, h2⟩ := filtK_lt hk
      have := remS_next h1 (canS_new h1 h2)
      omega
    rw [this]
    rfl
  | succ r =>
    rw [mostF]
    refine foldM_congr fun k hk => ?_
    obtain ⟨h1, h2⟩ := filtK_lt hk
    have := remS_next h1 (canS_new h1 h2)
    rw [show remS ts.length (s ||| 2 ^ k) = r by omega]
theorem mostF_le (rs : List Int) (ts : List TGuest) : ∀ r s, mostF rs ts r s ≤ r
  | 0, _ => Nat.le_refl _
  | r + 1, s => by
    rw [mostF]
    refine foldM_le fun k _ => ?_
    have := mostF_le rs ts r (s ||| 2 ^ k)
    omega
theorem mostS_le (rs : List Int) (ts : List TGuest) (s : Nat) : mostS rs ts s ≤ ts.length := Nat.le_trans (mostF_le _ _ _ _) (remS_le _ _)
def mostOf (rs : List Int) (ts : List TGuest) : Int × Int := if roB rs ts = true then ((mostS rs ts 0 : Nat), 0) else (0, 1)
theorem mostOf_bad {rs : List Int} {ts : List TGuest} (h : roB rs ts = false) : mostOf rs ts = (0, 1) := by unfold mostOf; rw [h]; rfl
theorem mostOf_good {rs : List Int} {ts : List TGuest} (h : roB rs ts = true) : mostOf rs ts = (((mostS rs ts 0 : Nat) : Int), 0) := by unfold mostOf; rw [h]; rfl
theorem filtK_yes {p : Nat → Bool} {k : Nat} (h : p k = true) : filtK p (k + 1) = filtK p k ++ [k] := by unfold filtK; rw [List.range_succ, List.filter_append]; simp [h]
theorem filtK_no {p : Nat → Bool} {k : Nat} (h : p k = false) : filtK p (k + 1) = filtK p k := by unfold filtK; rw [List.range_succ, List.filter_append]; simp [h]
/-- What valid guests are after some have gone: in rooms or outside, but not always valid. -/
theorem guB_aft {R : Int} {ts : List TGuest} (h : guB R ts = true) (s : Nat) : guB R (aftG ts s) = true := by
  refine all_yes (f := gB R) (fun k hk => ?_)
  have hk2 : k < ts.length := by rw [aftG_len] at hk; exact hk
  have h1 := guB_at h k hk2
  rw [aftG_get ts s k hk2]
  split
  · unfold gB goneG; rw [inB_yes h1.2]; rfl
  · exact all_at (f := gB R) h k hk2
theorem wfGuest_aft {ts : List TGuest} (h : ∀ t ∈ ts, wfGuest t) (s : Nat) : ∀ t ∈ aftG ts s, wfGuest t := by
  intro t ht
  obtain ⟨i, hi, rfl⟩ := List.getElem_of_mem ht
  have hi2 : i < ts.length := by rw [aftG_len] at hi; exact hi
  rw [aftG_get ts s i hi2]
  have := h _ (List.getElem_mem hi2)
  split
  · exact ⟨this.2, this.2⟩
  · exact this
theorem setN_self {m s : Nat} (h : s < 2 ^ m) : setN (fun i => s.testBit i) m = s := by
  apply Nat.eq_of_testBit_eq
  intro i
  rw [setN_bit]
  by_cases hi : i < m
  · simp [hi]
  · rw [Nat.testBit_lt_two_pow (Nat.lt_of_lt_of_le h (Nat.pow_le_pow_right (by decide) (by omega)))]
    simp
end Go.Proofs.YtkfeihnapcfkgaaDoor
