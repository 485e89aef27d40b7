/-
  The greatest number of elements of a list that fit each other two by two: plain facts. Nothing of the program stands here.
-/
import Derived.Test.YtpkkibnpjhlfmaaDoorNearMath
import Derived.Test.YtpkkibnpjhlfmaaDoorAdrMath
namespace Go.Proofs.YtpkkibnpjhlfmaaDoor

/-- The greatest number of elements, in their order, of which each fits all behind it. -/
def om {α : Type} (F : α → α → Bool) : List α → Nat
  | [] => 0
  | v :: l => max (1 + om F (l.filter (F v))) (om F l)
termination_by l => l.length
decreasing_by
  · simp; have := List.length_filter_le (F v) l; omega
  · simp
variable {α β : Type}
def Fit (F : α → α → Bool) (S : List α) : Prop := S.Pairwise (fun a b => F a b = true)
theorem om_nil (F : α → α → Bool) : om F [] = 0 := by unfold om; rfl
theorem om_cons (F : α → α → Bool) (v : α) (l : List α) : om F (v :: l) = max (1 + om F (l.filter (F v))) (om F l) := by rw [om]
theorem om_most (F : α → α → Bool) : ∀ (n : Nat) (l : List α), l.length ≤ n → ∀ S, S.Sublist l → Fit F S → S.length ≤ om F l
  | _, [], _, S, hs, _ => by
    have := List.sublist_nil.1 hs
    subst this
    simp
  | 0, v :: l, h, _, _, _ => by simp at h
  | n + 1, v :: l, h, S, hs, hf => by
    rw [om_cons]
    simp at h
    rcases List.sublist_cons_iff.1 hs with h1 | ⟨r, rfl, h1⟩
    · have := om_most F n l h S h1 hf
      omega
    · have hf' := List.pairwise_cons.1 hf
      have h2 : r.Sublist (l.filter (F v)) := by
        have h3 := h1.filter (F v)
        rwa [List.filter_eq_self.2 (fun a ha => hf'.1 a ha)] at h3
      have := om_most F n (l.filter (F v)) (by have := List.length_filter_le (F v) l; omega) r h2 hf'.2
      simp
      omega
theorem om_some (F : α → α → Bool) : ∀ (n : Nat) (l : List α), l.length ≤ n → ∃ S, S.Sublist l ∧ Fit F S ∧ S.length = om F l
  | _, [], _ => ⟨[], List.Sublist.refl _, List.Pairwise.nil, by rw [om_nil]; rfl⟩
  | 0, v :: l, h => by simp at h
  | n + 1, v :: l, h => by
    rw [om_cons]
    simp at h
    by_cases hc : om F l ≤ 1 + om F (l.filter (F v))
    · obtain ⟨S, h1, h2, h3⟩ := om_some F n (l.filter (F v)) (by have := List.length_filter_le (F v) l; omega)
      refine ⟨v :: S, (h1.trans List.filter_sublist).cons_cons v, List.pairwise_cons.2 ⟨fun a ha => (List.mem_filter.1 (h1.subset ha)).2, h2⟩, by simp; omega⟩
    · obtain ⟨S, h1, h2, h3⟩ := om_some F n l h
      exact ⟨S, h1.cons v, h2, by omega⟩
theorem om_le {F : α → α → Bool} {l S : List α} (h : S.Sublist l) (hf : Fit F S) : S.length ≤ om F l := om_most F _ l (Nat.le_refl _) S h hf
theorem om_is (F : α → α → Bool) (l : List α) : ∃ S, S.Sublist l ∧ Fit F S ∧ S.length = om F l := om_some F _ l (Nat.le_refl _)
theorem om_map (G : β → β → Bool) (f : α → β) : ∀ (n : Nat) (l : List α), l.length ≤ n → om G (l.map f) = om (fun a b => G (f a) (f b)) l
  | _, [], _ => by rw [List.map_nil, om_nil, om_nil]
  | 0, v :: l, h => by simp at h
  | n + 1, v :: l, h => by
    simp at h
    have e1 := om_map G f n l h
    have e2 := om_map G f n (l.filter (fun b => G (f v) (f b))) (by have := List.length_filter_le (fun b => G (f v) (f b)) l; omega)
    rw [List.map_cons, om_cons, om_cons, ← e1, ← e2, List.filter_map]
    rfl
theorem om_congr {F G : α → α → Bool} {l : List α} (h : ∀ a ∈ l, ∀ b ∈ l, F a b = G a b) : om F l = om G l := by
  have key : ∀ (F G : α → α → Bool), (∀ a ∈ l, ∀ b ∈ l, F a b = G a b) → om F l ≤ om G l := by
    intro F G h
    obtain ⟨S, h1, h2, h3⟩ := om_is F l
    rw [← h3]
    refine om_le h1 ?_
    exact List.Pairwise.imp_of_mem (fun ha hb hab => by rw [← h _ (h1.subset ha) _ (h1.subset hb)]; exact hab) h2
  exact Nat.le_antisymm (key F G h) (key G F (fun a ha b hb => (h a ha b hb).symm))
theorem om_len (F : α → α → Bool) (l : List α) : om F l ≤ l.length := by
  obtain ⟨S, h1, _, h3⟩ := om_is F l
  rw [← h3]
  exact h1.length_le
theorem filter_two (p : α → Bool) : ∀ S : List α, S.length = (S.filter p).length + (S.filter (fun a => !p a)).length
  | [] => rfl
  | a :: S => by
    have := filter_two p S
    cases h : p a <;> simp [h] <;> omega
/-- A part of the elements that does not fit each other adds 1 at most. -/
theorem om_group {F : α → α → Bool} {l : List α} {p : α → Bool} (h : ∀ a ∈ l, ∀ b ∈ l, p a = false → p b = false → F a b = false ∨ a = b) (hn : l.Nodup) : om F l ≤ 1 + om F (l.filter p) := by
  obtain ⟨S, h1, h2, h3⟩ := om_is F l
  rw [← h3]
  have h4 : (S.filter p).length ≤ om F (l.filter p) := om_le (h1.filter p) (h2.filter p)
  have h5 : (S.filter (fun a => !p a)).length ≤ 1 := by
    have hf := h2.filter (fun a => !p a)
    have hnd := (hn.sublist h1).filter (fun a => !p a)
    have hm : ∀ a ∈ S.filter (fun a => !p a), a ∈ l ∧ p a = false := fun a ha => by
      have := List.mem_filter.1 ha
      exact ⟨h1.subset this.1, by simpa using this.2⟩
    revert hf hnd hm
    generalize S.filter (fun a => !p a) = T
    intro hf hnd hm
    match T, hf, hnd, hm with
    | [], _, _, _ => simp
    | [a], _, _, _ => simp
    | a :: b :: r, hf, hnd, hm =>
      exfalso
      have e1 := (List.pairwise_cons.1 hf).1 b (by simp)
      have ha := hm a (by simp)
      have hb := hm b (by simp)
      rcases h a ha.1 b hb.1 ha.2 hb.2 with e | e
      · rw [e1] at e; cases e
      · have := (List.nodup_cons.1 hnd).1
        exact this (by rw [e]; simp)
  have h6 : S.length = (S.filter p).length + (S.filter (fun a => !p a)).length := filter_two p S
  omega

/-- The numbers of a set of bits, in ascending order. -/
def bitsL (x : Nat) : List Nat := (List.range 64).filter (fun i => x.testBit i)
theorem bitsL_mem {x i : Nat} : i ∈ bitsL x ↔ i < 64 ∧ x.testBit i = true := by simp [bitsL]
theorem bitsL_nodup (x : Nat) : (bitsL x).Nodup := List.nodup_range.filter _
theorem bitsL_zero : bitsL 0 = [] := by simp [bitsL]
theorem bitsL_and (x y : Nat) : bitsL (x &&& y) = (bitsL x).filter (fun i => y.testBit i) := by
  unfold bitsL
  rw [List.filter_filter]
  refine List.filter_congr fun i _ => ?_
  rw [Nat.testBit_and, Bool.and_comm]
theorem range_split (p : Nat → Bool) : ∀ (n k : Nat), k < n → p k = true → (∀ i, i < k → p i = false) → (List.range n).filter p = k :: (List.range n).filter (fun i => p i && !decide (i = k))
  | 0, k, h, _, _ => by omega
  | n + 1, k, h, hp, hl => by
    rw [List.range_succ, List.filter_append, List.filter_append]
    by_cases e : k = n
    · subst e
      have e1 : (List.range k).filter p = [] := List.filter_eq_nil_iff.2 (fun a ha => by rw [hl a (by simpa using ha)]; simp)
      have e2 : (List.range k).filter (fun i => p i && !decide (i = k)) = [] := List.filter_eq_nil_iff.2 (fun a ha => by rw [hl a (by simpa using ha)]; simp)
      rw [e1, e2]
      simp [hp]
    · rw [range_split p n k (by omega) hp hl]
      have e3 : [n].filter p = [n].filter (fun i => p i && !decide (i = k)) := by
        simp [List.filter_cons]
        have : ¬ n = k := fun e' => e e'.symm
        simp [this]
      rw [e3]
      rfl
/-- The least number of a set and the others. -/
theorem bitsL_first {x : Nat} (h0 : x ≠ 0) (h : x < 2 ^ 64) : bitsL x = Lib.ctz 64 x :: bitsL (x &&& (2 ^ 64 - 1 - 2 ^ Lib.ctz 64 x)) ∧ Lib.ctz 64 x < 64 := by
  obtain ⟨h1, h2, h3⟩ := ctz_bit h0 h
  refine ⟨?_, h2⟩
  refine (range_split (fun i => x.testBit i) 64 _ h2 h1 h3).trans ?_
  rw [bitsL_and]
  unfold bitsL
  rw [List.filter_filter]
  congr 1
  refine List.filter_congr fun i hi => ?_
  rw [not_pow h2]
  have : i < 64 := by simpa using hi
  simp [this]
  rw [Bool.and_comm]
end Go.Proofs.YtpkkibnpjhlfmaaDoor
