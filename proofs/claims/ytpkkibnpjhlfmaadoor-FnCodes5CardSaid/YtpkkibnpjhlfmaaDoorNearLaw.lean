/-
  FnNearest: plain facts on what the functions answer.
-/
import Derived.Test.YtpkkibnpjhlfmaaDoorNear
import Derived.Test.YtpkkibnpjhlfmaaDoorDistance
import Derived.Test.YtpkkibnpjhlfmaaDoorLeastAns
namespace Go.Proofs.YtpkkibnpjhlfmaaDoor
open Go.RowKit

theorem cntN_two {p : Nat → Bool} : ∀ {n i j : Nat}, i < n → j < n → i ≠ j → p i = true → p j = true → 1 < cntN p n
  | 0, _, _, h, _, _, _, _ => by omega
  | n + 1, i, j, hi, hj, hne, pi, pj => by
    have one : ∀ (k m : Nat), k < m → p k = true → 0 < cntN p m := by
      intro k m
      induction m with
      | zero => intro h; omega
      | succ m ih =>
        intro h hp
        simp only [cntN]
        by_cases e : k = m
        · subst e; rw [hp]; simp
        · have := ih (by omega) hp; omega
    simp only [cntN]
    by_cases ei : i = n
    · subst ei
      have := one j i (by omega) pj
      rw [pi]; simp; omega
    · by_cases ej : j = n
      · subst ej
        have := one i j (by omega) pi
        rw [pj]; simp; omega
      · have := cntN_two (n := n) (by omega) (by omega) hne pi pj
        omega
theorem word_more {g : Nat} {l : List UInt8} (h : WordP g l) (hg : g ≤ 4) : wordB 4 l = true := wordB_yes ⟨h.1, h.2.1, fun b hb => by have := h.2.2 b hb; omega⟩
theorem ok_word4 {g : Int} {ss : List ByteArray} (h : okB g (bls ss) = true) {i : Nat} (hi : i < ss.length) : wordB 4 (bl ss[i]) = true := by
  have h3 := ok_parts h
  have h1 := (of_decide_eq_true h).word i (by rw [bls_length]; exact hi)
  rw [bls_get _ _ hi] at h1
  exact word_more h1 (by omega)
theorem distP_symm (a b : ByteArray) : distP a b = distP b a := by
  unfold distP
  by_cases h : wordB 4 (bl a) = true ∧ wordB 4 (bl b) = true
  · rw [if_pos h, if_pos h.symm]
    by_cases hl : a.size = b.size
    · rw [if_pos hl, if_pos hl.symm, farL_symm (by rw [bl_length, bl_length]; exact hl)]
    · rw [if_neg hl, if_neg (fun e => hl e.symm)]
  · rw [if_neg h, if_neg (fun e => h e.symm)]
/-- Where NearestAddress tells an address, all others are farther away. -/
theorem near_unique {g : Int} {ss : List ByteArray} {s : ByteArray} {k d : Int} (h : nearAns g ss s = (k, d, 0)) :
    ∀ i (hi : i < ss.length), ∃ x : Int, distP ss[i] s = (x, 0) ∧ ((i : Int) = k ∨ d < x) := by
  intro i hi
  unfold nearAns at h
  split at h
  · rename_i ho
    split at h
    · rename_i hw
      rw [if_neg (by omega)] at h
      split at h
      · rename_i hl
        split at h
        · simp at h
        · rename_i hc
          injection h with h1 h2
          injection h2 with h2 _
          have h3 := ok_parts ho
          have hle := (ok_first ho (by omega)).2.2 _ (List.getElem_mem hi)
          refine ⟨_, distP_far (ok_word4 ho hi) (word_more (wordB_iff.1 hw) (by omega)) (by omega), ?_⟩
          obtain ⟨s1, s2, s3, s4⟩ := scanN_at (farS ss s) (n := ss.length) (by omega)
          rw [← farS_at hi rfl, ← h1, ← h2]
          by_cases e : i = (scanN (farS ss s) ss.length).1
          · left; omega
          · right
            have := s2 i hi
            have hne : farS ss s i ≠ farS ss s (scanN (farS ss s) ss.length).1 := by
              intro e2
              have := cntN_two (p := fun i => decide (farS ss s i = farS ss s (scanN (farS ss s) ss.length).1)) hi s1 e (by simpa using e2) (by simp)
              omega
            omega
      · simp at h
    · simp at h
  · simp at h
theorem leastD_both {ws : List (List UInt8)} (h2 : 2 ≤ ws.length) (h8 : ∀ i, i < ws.length → (ws.getD i []).length ≤ 8) : HasPair ws (leastD ws) ∧ ∀ i, i < ws.length → ∀ k, k < i → leastD ws ≤ farL (ws.getD i []) (ws.getD k []) := by
  have hp : ∃ m, m ≤ 8 ∧ HasPair ws m := ⟨_, by have := farL_le (ws.getD 1 []) (ws.getD 0 []); have := h8 1 (by omega); omega, 1, by omega, 0, by omega, rfl⟩
  have hm : ∀ i, i < ws.length → ∀ k, k < i → farL (ws.getD i []) (ws.getD k []) ≤ 8 := fun i hi k _ => by have := farL_le (ws.getD i []) (ws.getD k []); have := h8 i hi; omega
  unfold leastD
  cases hf : (List.range 9).find? fun m => decide (HasPair ws m) with
  | none =>
    obtain ⟨m, hm8, hpm⟩ := hp
    have := List.find?_eq_none.1 hf m (by simp; omega)
    simp at this
    exact absurd hpm this
  | some m =>
    have h1 := List.find?_some hf
    simp at h1
    refine ⟨h1, fun i hi k hk => ?_⟩
    show m ≤ _
    rw [List.find?_range_eq_some] at hf
    obtain ⟨_, _, h3⟩ := hf
    have hle := hm i hi k hk
    by_cases hlt : farL (ws.getD i []) (ws.getD k []) < m
    · have := h3 _ hlt
      simp at this
      exact absurd ⟨i, hi, k, hk, rfl⟩ this
    · omega
/-- Where LeastDistance tells one, it is that of two addresses, and no two have a lesser one. -/
theorem least_all {g : Int} {ss : List ByteArray} {l : Int} (h : leastAns g ss = (l, 0)) :
    1 ≤ l ∧ l ≤ 8 ∧ (∀ i (hi : i < ss.length) k (hk : k < i), ∃ x : Int, distP ss[i] (ss[k]'(by omega)) = (x, 0) ∧ l ≤ x) ∧ ∃ i, ∃ hi : i < ss.length, ∃ k, ∃ hk : k < i, distP ss[i] (ss[k]'(by omega)) = (l, 0) := by
  unfold leastAns at h
  split at h
  · rename_i ho
    split at h
    · simp at h
    · rename_i h2
      injection h with h1 _
      have hle := (ok_first ho (by omega)).2
      have hd : ∀ i (hi : i < ss.length) k (hk : k < i), distP ss[i] (ss[k]'(by omega)) = (((farL ((bls ss).getD i []) ((bls ss).getD k []) : Nat) : Int), 0) := fun i hi k hk => by
        rw [bls_get _ _ hi, bls_get _ k (by omega)]
        exact distP_far (ok_word4 ho hi) (ok_word4 ho _) (by rw [hle.2 _ (List.getElem_mem hi), hle.2 _ (List.getElem_mem _)])
      obtain ⟨⟨i, hi, k, hk, hf⟩, hall⟩ := leastD_both (ws := bls ss) (by rw [bls_length]; omega) (fun i hi => by
        rw [bls_length] at hi
        rw [bls_get _ _ hi, bl_length, hle.2 _ (List.getElem_mem hi)]; exact hle.1)
      rw [bls_length] at hi
      have h8 := leastD_le (bls ss)
      refine ⟨?_, by omega, fun i hi k hk => ⟨_, hd i hi k hk, ?_⟩, i, hi, k, hk, ?_⟩
      · rw [← h1, ← hf]
        have hne : (bls ss).getD i [] ≠ (bls ss).getD k [] := fun e => ((of_decide_eq_true ho).2 i (by rw [bls_length]; exact hi)).2.2 k hk e.symm
        have := farL_ne (x := (bls ss).getD i []) (y := (bls ss).getD k []) (by rw [bls_get _ _ hi, bls_get _ k (by omega), bl_length, bl_length, hle.2 _ (List.getElem_mem hi), hle.2 _ (List.getElem_mem _)]) hne
        omega
      · rw [← h1]
        have := hall i (by rw [bls_length]; exact hi) k hk
        omega
      · rw [hd i hi k hk, hf, h1]
  · simp at h
theorem corr_of {g : Int} {ss : List ByteArray} {l : Int} (h : leastAns g ss = (l, 0)) : (corrAns g ss).1 = halfD l := by
  unfold leastAns at h
  unfold corrAns
  split at h
  · rename_i ho
    rw [if_pos ho]
    split at h
    · simp at h
    · rename_i h2
      injection h with h1 _
      rw [if_neg h2, h1]
  · simp at h
theorem halfD_at {l : Int} (h : 1 ≤ l) : 2 * halfD l < l ∧ l ≤ 2 * halfD l + 2 ∧ 0 ≤ halfD l := by
  unfold halfD
  rw [Int.tdiv_eq_ediv_of_nonneg (by omega)]
  omega
end Go.Proofs.YtpkkibnpjhlfmaaDoor
