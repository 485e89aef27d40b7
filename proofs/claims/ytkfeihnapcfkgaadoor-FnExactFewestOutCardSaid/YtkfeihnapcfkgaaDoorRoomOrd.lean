/-
  Orders in which guests go: the first of the longest ones. Nothing of the program stands here.
-/
import Derived.Test.YtkfeihnapcfkgaaDoorRoomMost
namespace Go.Proofs.YtkfeihnapcfkgaaDoor
open Go.RowKit

/-- How many guests do not rest when those of a set have gone. -/
def leftS (ts : List TGuest) (s : Nat) : Nat := cntN (lessN (aftG ts s)) ts.length
theorem less_of_can {rs : List Int} {ts : List TGuest} {k : Nat} (h : canN rs ts k = true) : lessN ts k = true := by
  unfold canN gsN canG at h
  rw [Bool.and_eq_true] at h
  exact h.1
theorem less_new {ts : List TGuest} {s k : Nat} (hk : k < ts.length) (h : lessN (aftG ts s) k = true) : s.testBit k = false := by
  cases hb : s.testBit k with
  | false => rfl
  | true =>
    exfalso
    have hk2 : k < (aftG ts s).length := by rw [aftG_len]; exact hk
    unfold lessN at h
    rw [gsN_at hk2, aftG_get ts s k hk, if_pos hb] at h
    unfold goneG lessG resG at h
    simp at h
theorem leftS_next {ts : List TGuest} {s k : Nat} (hk : k < ts.length) (h : lessN (aftG ts s) k = true) : leftS ts (s ||| 2 ^ k) + 1 = leftS ts s := by
  unfold leftS
  refine cntN_one (k := k) (fun i hi hne => ?_) hk h ?_
  · have e : ¬ k = i := fun e => hne e.symm
    unfold lessN
    rw [gsN_at (by rw [aftG_len]; exact hi), gsN_at (by rw [aftG_len]; exact hi), aftG_get ts _ i hi, aftG_get ts _ i hi, Nat.testBit_or, Nat.testBit_two_pow]
    simp [e]
  · unfold lessN
    rw [gsN_at (by rw [aftG_len]; exact hk), aftG_get ts _ k hk, Nat.testBit_or, Nat.testBit_two_pow]
    simp [goneG, lessG, resG]
theorem mostS_left (rs : List Int) (ts : List TGuest) : ∀ (r s : Nat), leftS ts s ≤ r → mostS rs ts s ≤ leftS ts s
  | 0, s, h => by
    rw [mostS_eq]
    refine foldM_le fun k hk => ?_
    obtain ⟨h1, h2⟩ := filtK_lt hk
    have := leftS_next h1 (less_of_can h2)
    omega
  | r + 1, s, h => by
    rw [mostS_eq]
    refine foldM_le fun k hk => ?_
    obtain ⟨h1, h2⟩ := filtK_lt hk
    have h3 := leftS_next h1 (less_of_can h2)
    have := mostS_left rs ts r (s ||| 2 ^ k) (by omega)
    omega
theorem foldM_ge {f : Nat → Nat} {k : Nat} : ∀ {ks : List Nat}, k ∈ ks → 1 + f k ≤ foldM f ks := by
  have key : ∀ (ks : List Nat) (b : Nat), b ≤ ks.foldl (fun b k => max b (1 + f k)) b := by
    intro ks
    induction ks with
    | nil => intro b; exact Nat.le_refl _
    | cons k ks ih => intro b; simp only [List.foldl_cons]; exact Nat.le_trans (Nat.le_max_left _ _) (ih _)
  have key2 : ∀ (ks : List Nat) (b : Nat), k ∈ ks → 1 + f k ≤ ks.foldl (fun b k => max b (1 + f k)) b := by
    intro ks
    induction ks with
    | nil => intro b h; simp at h
    | cons j ks ih =>
      intro b h
      simp only [List.foldl_cons]
      rcases List.mem_cons.1 h with rfl | h
      · exact Nat.le_trans (Nat.le_max_right _ _) (key _ _)
      · exact ih _ h
  exact fun {ks} h => key2 ks 0 h
theorem foldM_at {f : Nat → Nat} {ks : List Nat} (h : 0 < foldM f ks) : ∃ k ∈ ks, 1 + f k = foldM f ks := by
  have key : ∀ (ks : List Nat) (b : Nat), ks.foldl (fun b k => max b (1 + f k)) b = b ∨ ∃ k ∈ ks, 1 + f k = ks.foldl (fun b k => max b (1 + f k)) b := by
    intro ks
    induction ks with
    | nil => intro b; exact .inl rfl
    | cons j ks ih =>
      intro b
      simp only [List.foldl_cons]
      rcases ih (max b (1 + f j)) with h | ⟨k, h1, h2⟩
      · rcases Nat.le_total b (1 + f j) with h3 | h3
        · exact .inr ⟨j, by simp, by rw [h]; omega⟩
        · exact .inl (by rw [h]; omega)
      · exact .inr ⟨k, by simp [h1], h2⟩
  rcases key ks 0 with h2 | h2
  · have : foldM f ks = 0 := h2
    omega
  · exact h2
theorem filtK_mem {p : Nat → Bool} {m k : Nat} (hk : k < m) (h : p k = true) : k ∈ filtK p m := by unfold filtK; simp [hk, h]
theorem mostS_ge {rs : List Int} {ts : List TGuest} {s k : Nat} (hk : k < ts.length) (h : canS rs ts s k = true) : 1 + mostS rs ts (s ||| 2 ^ k) ≤ mostS rs ts s := by
  rw [mostS_eq rs ts s]
  exact foldM_ge (f := fun k => mostS rs ts (s ||| 2 ^ k)) (filtK_mem hk h)
theorem mostS_at {rs : List Int} {ts : List TGuest} {s : Nat} (h : 0 < mostS rs ts s) : ∃ k, k < ts.length ∧ canS rs ts s k = true ∧ 1 + mostS rs ts (s ||| 2 ^ k) = mostS rs ts s := by
  rw [mostS_eq] at h
  obtain ⟨k, h1, h2⟩ := foldM_at h
  obtain ⟨h3, h4⟩ := filtK_lt h1
  exact ⟨k, h3, h4, by rw [mostS_eq rs ts s]; exact h2⟩
def goodP (rs : List Int) (ts : List TGuest) (s k : Nat) : Bool := canS rs ts s k && decide (1 + mostS rs ts (s ||| 2 ^ k) = mostS rs ts s)
/-- The first guest after which as many others can go as after any. -/
def firstK (rs : List Int) (ts : List TGuest) (s : Nat) : Nat := Lib.ctz 64 (setN (goodP rs ts s) ts.length)
theorem firstK_good {rs : List Int} {ts : List TGuest} {s : Nat} (hm : ts.length ≤ 8) (h : 0 < mostS rs ts s) : firstK rs ts s < ts.length ∧ goodP rs ts s (firstK rs ts s) = true ∧ ∀ i, i < firstK rs ts s → goodP rs ts s i = false := by
  obtain ⟨k, h1, h2, h3⟩ := mostS_at h
  have hk : goodP rs ts s k = true := by unfold goodP; rw [h2, decide_eq_true h3]; rfl
  exact ctz_first (by omega) (fun h0 => by have := setN_zero.1 h0 k h1; rw [hk] at this; exact absurd this (by decide))
theorem firstK_at {rs : List Int} {ts : List TGuest} {s k : Nat} (hm : ts.length ≤ 8) (hk : k < ts.length) (h : goodP rs ts s k = true) (hb : ∀ i, i < k → goodP rs ts s i = false) : firstK rs ts s = k := ctz_setN (by omega) hk h hb
def ordF (rs : List Int) (ts : List TGuest) : Nat → Nat → List Int
  | 0, _ => []
  | r + 1, s => (firstK rs ts s : Int) :: ordF rs ts r (s ||| 2 ^ firstK rs ts s)
def ordS (rs : List Int) (ts : List TGuest) (s : Nat) : List Int := ordF rs ts (mostS rs ts s) s
theorem ordS_none {rs : List Int} {ts : List TGuest} {s : Nat} (h : mostS rs ts s = 0) : ordS rs ts s = [] := by unfold ordS; rw [h]; rfl
theorem ordS_next {rs : List Int} {ts : List TGuest} {s : Nat} (hm : ts.length ≤ 8) (h : 0 < mostS rs ts s) : ordS rs ts s = (firstK rs ts s : Int) :: ordS rs ts (s ||| 2 ^ firstK rs ts s) := by
  obtain ⟨_, h2, _⟩ := firstK_good hm h
  unfold goodP at h2
  rw [Bool.and_eq_true] at h2
  have h3 := of_decide_eq_true h2.2
  unfold ordS
  obtain ⟨r, hr⟩ : ∃ r, mostS rs ts s = r + 1 := ⟨mostS rs ts s - 1, by omega⟩
  rw [hr, ordF, show mostS rs ts (s ||| 2 ^ firstK rs ts s) = r by omega]
theorem ordF_len (rs : List Int) (ts : List TGuest) : ∀ r s, (ordF rs ts r s).length = r
  | 0, _ => rfl
  | r + 1, s => by rw [ordF, List.length_cons, ordF_len rs ts r]
theorem ordS_len (rs : List Int) (ts : List TGuest) (s : Nat) : (ordS rs ts s).length = mostS rs ts s := ordF_len _ _ _ _
/-- Whether all that are left can go. -/
def okS (rs : List Int) (ts : List TGuest) (s : Nat) : Bool := decide (mostS rs ts s = leftS ts s)
theorem okS_done {rs : List Int} {ts : List TGuest} {s : Nat} (h : leftS ts s = 0) : okS rs ts s = true ∧ ordS rs ts s = [] := by
  have := mostS_left rs ts 0 s (by omega)
  exact ⟨decide_eq_true (by omega), ordS_none (by omega)⟩
theorem okS_at {rs : List Int} {ts : List TGuest} {s k : Nat} (hm : ts.length ≤ 8) (hk : k < ts.length) (hc : canS rs ts s k = true) (ho : okS rs ts (s ||| 2 ^ k) = true) (hb : ∀ j, j < k → canS rs ts s j = true → okS rs ts (s ||| 2 ^ j) = false) :
    okS rs ts s = true ∧ ordS rs ts s = (k : Int) :: ordS rs ts (s ||| 2 ^ k) := by
  have h1 := mostS_left rs ts _ s (Nat.le_refl _)
  have h2 := leftS_next hk (less_of_can hc)
  have h3 := mostS_ge hk hc
  have h4 := of_decide_eq_true ho
  have h5 : mostS rs ts s = leftS ts s := by omega
  have hg : goodP rs ts s k = true := by unfold goodP; rw [hc, decide_eq_true (by omega)]; rfl
  have hf : firstK rs ts s = k := firstK_at hm hk hg (fun i hi => by
    cases hgi : goodP rs ts s i with
    | false => rfl
    | true =>
      exfalso
      unfold goodP at hgi
      rw [Bool.and_eq_true] at hgi
      have h6 := of_decide_eq_true hgi.2
      have h7 := leftS_next (show i < ts.length by omega) (less_of_can hgi.1)
      have h8 := of_decide_eq_false (hb i hi hgi.1)
      omega)
  refine ⟨decide_eq_true h5, ?_⟩
  rw [ordS_next hm (by omega), hf]
theorem okS_none {rs : List Int} {ts : List TGuest} {s : Nat} (h0 : ¬ leftS ts s = 0) (hb : ∀ j, j < ts.length → canS rs ts s j = true → okS rs ts (s ||| 2 ^ j) = false) : okS rs ts s = false := by
  refine decide_eq_false fun h => ?_
  obtain ⟨k, h1, h2, h3⟩ := mostS_at (rs := rs) (ts := ts) (s := s) (by omega)
  have h4 := leftS_next h1 (less_of_can h2)
  have h5 := of_decide_eq_false (hb k h1 h2)
  omega
def orderOf (rs : List Int) (ts : List TGuest) : List Int × Int := if roB rs ts = true then (if okS rs ts 0 = true then (ordS rs ts 0, 0) else ([], 10)) else ([], 1)
theorem orderOf_bad {rs : List Int} {ts : List TGuest} (h : roB rs ts = false) : orderOf rs ts = ([], 1) := by unfold orderOf; rw [h]; rfl
theorem orderOf_stuck {rs : List Int} {ts : List TGuest} (h : roB rs ts = true) (h2 : okS rs ts 0 = false) : orderOf rs ts = ([], 10) := by unfold orderOf; rw [h, h2]; rfl
theorem orderOf_good {rs : List Int} {ts : List TGuest} (h : roB rs ts = true) (h2 : okS rs ts 0 = true) : orderOf rs ts = (ordS rs ts 0, 0) := by unfold orderOf; rw [h, h2]; rfl
theorem orderOf_len (rs : List Int) (ts : List TGuest) : (orderOf rs ts).1.length ≤ 1048576 := by
  cases h : roB rs ts with
  | false => rw [orderOf_bad h]; simp
  | true =>
    have h8 := (roB_of h).1.2.2
    cases h2 : okS rs ts 0 with
    | false => rw [orderOf_stuck h h2]; simp
    | true => rw [orderOf_good h h2]; have := mostS_le rs ts 0; have := ordS_len rs ts 0; dsimp only; omega
end Go.Proofs.YtkfeihnapcfkgaaDoor
