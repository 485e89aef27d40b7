/-
  FnCodes5: plain facts on what the functions answer.
-/
import Derived.Test.YtpkkibnpjhlfmaaDoorMostSpec2
import Derived.Test.YtpkkibnpjhlfmaaDoorNearLaw
import Derived.Test.YtpkkibnpjhlfmaaDoorAddSpec
namespace Go.Proofs.YtpkkibnpjhlfmaaDoor
open Go.RowKit

theorem nearB_all {ts : List ByteArray} {s : ByteArray} {d : Int} (h : nearB ts s d = false) : ∀ t ∈ ts, d ≤ ((farL (bl t) (bl s) : Nat) : Int) := by
  intro t ht
  unfold nearB at h
  have := List.any_eq_false.1 h t ht
  simp at this
  omega
theorem grTo_fit (d : Int) (all : List ByteArray) : ∀ k, k ≤ all.length → (grTo d all k).Sublist (all.take k) ∧ Fit (fitB d) (grTo d all k)
  | 0, _ => ⟨by simp [grTo], List.Pairwise.nil⟩
  | k + 1, h => by
    obtain ⟨h1, h2⟩ := grTo_fit d all k (by omega)
    have e : all.take (k + 1) = all.take k ++ [all[k]] := by rw [List.take_add_one, List.getElem?_eq_getElem (by omega)]; rfl
    cases hn : nearB (grTo d all k) all[k] d with
    | true =>
      rw [grTo_near (by omega) rfl hn, e]
      exact ⟨h1.trans (List.sublist_append_left _ _), h2⟩
    | false =>
      rw [grTo_far (by omega) rfl hn, e]
      refine ⟨h1.append (List.Sublist.refl _), List.pairwise_append.2 ⟨h2, List.pairwise_singleton _ _, fun a ha b hb => ?_⟩⟩
      simp at hb
      subst hb
      have := nearB_all hn a ha
      unfold fitB
      exact decide_eq_true this
theorem word_of_all {g r : Nat} (h1 : 1 ≤ r) (h8 : r ≤ 8) (h2 : 2 ≤ g) (h4 : g ≤ 4) {s : ByteArray} (h : s ∈ bas (allW g r)) : wordB 4 (bl s) = true ∧ s.size = r := by
  obtain ⟨l, hl, rfl⟩ := List.mem_map.1 h
  have hi := allW_in.1 hl
  refine ⟨wordB_yes ⟨?_, ?_, fun b hb => ?_⟩, ?_⟩
  · show 1 ≤ l.length; rw [hi.1]; exact h1
  · show l.length ≤ 8; rw [hi.1]; exact h8
  · have := (lettersL_mem h2 h4 b).1 (by simpa using hi.2 b hb)
    omega
  · show l.length = r; exact hi.1
/-- The greedy code's words are far enough from each other. -/
theorem greedy_pairs {g r d : Int} {l : List ByteArray} (h : ansGreedy g r d = (l, 0)) : ∀ i (hi : i < l.length) k (hk : k < i), ∃ x : Int, distP l[i] (l[k]'(by omega)) = (x, 0) ∧ d ≤ x := by
  intro i hi k hk
  unfold ansGreedy at h
  split at h
  · rename_i hc
    injection h with h1 _
    obtain ⟨c1, c2, c3, c4, c5, c6, c7⟩ := codeW_zero hc
    have hlen : (bas (allW g.toNat r.toNat)).length = g.toNat ^ r.toNat := by rw [bas_length, allW_length (by omega)]
    obtain ⟨f1, f2⟩ := grTo_fit d (bas (allW g.toNat r.toNat)) (g.toNat ^ r.toNat) (by omega)
    rw [h1] at f1 f2
    have hw : ∀ s ∈ l, wordB 4 (bl s) = true ∧ s.size = r.toNat := fun s hs => word_of_all (by omega) (by omega) (by omega) (by omega) (List.mem_of_mem_take (f1.subset hs))
    have w1 := hw _ (List.getElem_mem hi)
    have w2 := hw _ (List.getElem_mem (l := l) (n := k) (by omega))
    refine ⟨_, distP_far w1.1 w2.1 (by omega), ?_⟩
    have := List.pairwise_iff_getElem.1 f2 k i (by omega) hi hk
    unfold fitB at this
    rw [farL_symm (by rw [bl_length, bl_length]; omega)]
    simpa using this
  · rename_i hc
    injection h with _ h2
    exact absurd h2 hc
/-- The greatest code has no fewer words than the greedy one. -/
theorem greedy_most {g r d m : Int} (h : mostAns g r d = (m, 0)) : ∃ l, ansGreedy g r d = (l, 0) ∧ (l.length : Int) ≤ m := by
  unfold mostAns at h
  split at h
  · rename_i hc
    injection h with h1 _
    obtain ⟨c1, c2, c3, c4, c5, c6, c7⟩ := codeW_zero hc
    have hc3 : codeW g r d 300 = 0 := codeW_ok ⟨c1, c2, c3, c4, c5, c6⟩ (by omega)
    refine ⟨_, if_pos hc3, ?_⟩
    have hlen : (bas (allW g.toNat r.toNat)).length = g.toNat ^ r.toNat := by rw [bas_length, allW_length (by omega)]
    obtain ⟨f1, f2⟩ := grTo_fit d (bas (allW g.toNat r.toNat)) (g.toNat ^ r.toNat) (by omega)
    have := om_le (f1.trans (List.take_sublist _ _)) f2
    show (((grTo d (bas (allW g.toNat r.toNat)) (g.toNat ^ r.toNat)).length : Nat) : Int) ≤ m
    omega
  · rename_i hc
    injection h with _ h2
    exact absurd h2 hc
/-- The address that is added is far enough from all. -/
theorem add_far {g d : Int} {ss l : List ByteArray} (h : addAns g ss d = (l, 0)) : ∃ t, l = ss ++ [t] ∧ t.size ≤ 8 ∧ ∀ i (hi : i < ss.length), ∃ x : Int, distP ss[i] t = (x, 0) ∧ d ≤ x := by
  cases ho : okB g (bls ss) with
  | false => rw [addAns_bad ho] at h; simp at h
  | true =>
    by_cases hd : 1 ≤ d ∧ d ≤ 8
    · by_cases h0 : ss.length = 0
      · rw [addAns_none ho hd h0] at h; simp at h
      · by_cases h4 : 40 ≤ ss.length ∨ 300 < g.toNat ^ lenA ss
        · rw [addAns_full ho hd h0 h4] at h; simp at h
        · cases hf : firstFar d ss (bas (allW g.toNat (lenA ss))) with
          | none => rw [addAns_lost ho hd h0 h4 hf] at h; simp at h
          | some t =>
            rw [addAns_found ho hd h0 h4 hf] at h
            injection h with h1 _
            have hp := ok_parts ho
            have hfi := ok_first ho (by omega)
            have hm := List.mem_of_find?_eq_some hf
            have hn := List.find?_some hf
            have hw := word_of_all (by omega) (by omega) (by omega) (by omega) hm
            refine ⟨t, h1.symm, by omega, fun i hi => ⟨_, distP_far (ok_word4 ho hi) hw.1 (by rw [hfi.2.2 _ (List.getElem_mem hi)]; omega), ?_⟩⟩
            exact nearB_all (by simpa using hn) _ (List.getElem_mem hi)
    · rw [addAns_range ho hd] at h; simp at h
theorem all_count {g r : Int} {l : List ByteArray} (h : ansAll g r = (l, 0)) : 2 ≤ g ∧ g ≤ 4 ∧ 1 ≤ r ∧ r ≤ 8 ∧ l.length = g.toNat ^ r.toNat ∧ g.toNat ^ r.toNat ≤ 300 := by
  unfold ansAll at h
  split at h
  · rename_i hc
    injection h with h1 _
    obtain ⟨c1, c2, c3, c4, c5, c6, c7⟩ := codeW_zero hc
    refine ⟨c1, c2, c3, c4, ?_, by omega⟩
    rw [← h1, bas_length, allW_length (by omega)]
  · rename_i hc
    injection h with _ h2
    exact absurd h2 hc
theorem grTo_some (d : Int) (all : List ByteArray) : ∀ k, k + 1 ≤ all.length → 0 < (grTo d all (k + 1)).length
  | 0, h => by
    rw [grTo_far (k := 0) (by omega) rfl (by simp [grTo, nearB])]
    simp [grTo]
  | k + 1, h => by
    have ih := grTo_some d all k (by omega)
    cases hn : nearB (grTo d all (k + 1)) all[k + 1] d with
    | true => rw [grTo_near (by omega) rfl hn]; exact ih
    | false => rw [grTo_far (by omega) rfl hn]; simp
theorem greedy_some {g r d : Int} {l : List ByteArray} (h : ansGreedy g r d = (l, 0)) : 0 < l.length ∧ ∀ s ∈ l, s.size ≤ 8 := by
  unfold ansGreedy at h
  split at h
  · rename_i hc
    injection h with h1 _
    obtain ⟨c1, c2, c3, c4, c5, c6, c7⟩ := codeW_zero hc
    have hlen : (bas (allW g.toNat r.toNat)).length = g.toNat ^ r.toNat := by rw [bas_length, allW_length (by omega)]
    have hp : 1 ≤ g.toNat ^ r.toNat := Nat.one_le_pow _ _ (by omega)
    obtain ⟨k, hk⟩ : ∃ k, g.toNat ^ r.toNat = k + 1 := ⟨g.toNat ^ r.toNat - 1, by omega⟩
    obtain ⟨f1, _⟩ := grTo_fit d (bas (allW g.toNat r.toNat)) (g.toNat ^ r.toNat) (by omega)
    rw [h1] at f1
    refine ⟨?_, fun s hs => ?_⟩
    · rw [← h1, hk]; exact grTo_some d _ k (by omega)
    · have := (word_of_all (by omega) (by omega) (by omega) (by omega) (List.mem_of_mem_take (f1.subset hs))).2
      omega
  · rename_i hc
    injection h with _ h2
    exact absurd h2 hc
end Go.Proofs.YtpkkibnpjhlfmaaDoor
