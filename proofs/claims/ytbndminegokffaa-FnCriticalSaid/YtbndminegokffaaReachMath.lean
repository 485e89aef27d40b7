/-
  Who reaches whom, as a test; strong networks: plain facts on lists.
-/
import Derived.Test.YtbndminegokffaaFarMath
namespace Go.Proofs.Ytbndminegokffaa
open Go.RowKit

/-- A tube that leads into s from outside: its first station. -/
def nxt (ts : List T3) (wo : Int) (s : List Nat) : Option Nat :=
  ((List.range ts.length).filterMap fun i => match ts[i]? with
    | some t => if ¬ (i : Int) = wo ∧ t.2.1.toNat ∈ s ∧ ¬ t.1.toNat ∈ s then some t.1.toNat else none
    | none => none).head?
def clo (ts : List T3) (wo : Int) : Nat → List Nat → List Nat
  | 0, s => s
  | k + 1, s => match nxt ts wo s with
    | none => s
    | some f => clo ts wo k (f :: s)
def rB (ts : List T3) (wo : Int) (S to v : Nat) : Bool := decide (v ∈ clo ts wo S [to])
/-- All tubes lead between the stations 0 .. S - 1. -/
def Nats (ts : List T3) (S : Nat) : Prop := ∀ i (hi : i < ts.length), ∃ f t : Nat, ts[i].1 = (f : Int) ∧ ts[i].2.1 = (t : Int) ∧ f < S ∧ t < S
theorem nxt_some {ts : List T3} {wo : Int} {s : List Nat} {f S : Nat} (hN : Nats ts S) (h : nxt ts wo s = some f) : ∃ t, Ed ts wo f t ∧ t ∈ s ∧ ¬ f ∈ s ∧ f < S := by
  unfold nxt at h
  have hm := List.mem_of_head? h
  rw [List.mem_filterMap] at hm
  obtain ⟨i, hi, hm⟩ := hm
  have hil : i < ts.length := List.mem_range.1 hi
  obtain ⟨f0, t0, e1, e2, hf, ht⟩ := hN i hil
  rw [List.getElem?_eq_getElem hil] at hm
  simp only [e1, e2, Int.toNat_natCast] at hm
  split at hm
  · rename_i hc
    injection hm with hm
    subst hm
    exact ⟨t0, ⟨i, hil, hc.1, e1, e2⟩, hc.2.1, hc.2.2, hf⟩
  · cases hm
theorem nxt_none {ts : List T3} {wo : Int} {s : List Nat} (h : nxt ts wo s = none) {f t : Nat} (he : Ed ts wo f t) (ht : t ∈ s) : f ∈ s := by
  obtain ⟨i, hi, hw, e1, e2⟩ := he
  refine Classical.byContradiction fun hf => ?_
  unfold nxt at h
  rw [List.head?_eq_none_iff, List.filterMap_eq_nil_iff] at h
  have := h i (List.mem_range.2 hi)
  rw [List.getElem?_eq_getElem hi] at this
  simp only [e1, e2, Int.toNat_natCast] at this
  rw [if_pos ⟨hw, ht, hf⟩] at this
  cases this
theorem clo_sub (ts : List T3) (wo : Int) : ∀ (k : Nat) (s : List Nat), ∀ v ∈ s, v ∈ clo ts wo k s
  | 0, _, _, h => h
  | k + 1, s, v, h => by
    unfold clo
    split
    · exact h
    · exact clo_sub ts wo k _ v (List.mem_cons_of_mem _ h)
theorem clo_sound {ts : List T3} {wo : Int} {S to : Nat} (hN : Nats ts S) : ∀ (k : Nat) (s : List Nat), (∀ v ∈ s, Rch ts wo to v) → ∀ v ∈ clo ts wo k s, Rch ts wo to v
  | 0, _, h => h
  | k + 1, s, h => by
    unfold clo
    split
    · exact h
    · rename_i f hf
      obtain ⟨t, he, ht, _, _⟩ := nxt_some hN hf
      refine clo_sound hN k _ (fun v hv => ?_)
      rcases List.mem_cons.1 hv with rfl | hv
      · exact .step he (h t ht)
      · exact h v hv
theorem few_of {S : Nat} {s : List Nat} (hd : s.Nodup) (hb : ∀ v ∈ s, v < S) : s.length ≤ S := by
  have := List.Nodup.length_le_of_subset hd (fun v hv => List.mem_range.2 (hb v hv) : s ⊆ List.range S)
  simpa using this
theorem clo_full {ts : List T3} {wo : Int} {S : Nat} (hN : Nats ts S) : ∀ (k : Nat) (s : List Nat), s.Nodup → (∀ v ∈ s, v < S) → S ≤ k + s.length → ∀ f t, Ed ts wo f t → t ∈ clo ts wo k s → f ∈ clo ts wo k s
  | 0, s, hd, hb, hk, f, t, he, ht => by
    obtain ⟨i, hi, _, e1, e2⟩ := he
    obtain ⟨f0, t0, q1, q2, hf, _⟩ := hN i hi
    have : f0 = f := by omega
    subst this
    refine Classical.byContradiction fun hc => ?_
    have h2 := few_of (List.nodup_cons.2 ⟨hc, hd⟩) (fun v hv => by
      rcases List.mem_cons.1 hv with rfl | hv
      · exact hf
      · exact hb v hv)
    simp only [List.length_cons, clo] at h2
    omega
  | k + 1, s, hd, hb, hk, f, t, he, ht => by
    unfold clo at ht ⊢
    split at ht
    · rename_i hn
      exact nxt_none hn he ht
    · rename_i f0 hf0
      obtain ⟨_, _, _, hns, hfS⟩ := nxt_some hN hf0
      exact clo_full hN k _ (List.nodup_cons.2 ⟨hns, hd⟩) (fun v hv => by
        rcases List.mem_cons.1 hv with rfl | hv
        · exact hfS
        · exact hb v hv) (by simp only [List.length_cons]; omega) f t he ht
theorem rB_iff {ts : List T3} {wo : Int} {S to : Nat} (hN : Nats ts S) (hto : to < S) (v : Nat) : rB ts wo S to v = true ↔ Rch ts wo to v := by
  unfold rB
  rw [decide_eq_true_eq]
  constructor
  · exact clo_sound hN S [to] (fun v hv => by rw [List.mem_singleton] at hv; subst hv; exact .here) v
  · intro h
    induction h with
    | here => exact clo_sub ts wo S _ _ (List.mem_singleton.2 rfl)
    | step he _ ih => exact clo_full hN S [to] (by simp) (fun v hv => by rw [List.mem_singleton] at hv; omega) (by simp) _ _ he ih
/-- The stations that st reaches. -/
def reachL (ts : List T3) (S st : Nat) : List Int := ((List.range S).filter fun to => rB ts (-1) S to st).map fun to : Nat => (to : Int)
/-- The first k stations' part of it. -/
def reachK (ts : List T3) (S st k : Nat) : List Int := ((List.range k).filter fun to => rB ts (-1) S to st).map fun to : Nat => (to : Int)
theorem reachK_zero (ts : List T3) (S st : Nat) : reachK ts S st 0 = [] := by simp [reachK]
theorem reachK_yes {ts : List T3} {S st k : Nat} (h : rB ts (-1) S k st = true) : reachK ts S st (k + 1) = reachK ts S st k ++ [(k : Int)] := by
  unfold reachK; rw [List.range_succ, List.filter_append, List.map_append]; simp [h]
theorem reachK_no {ts : List T3} {S st k : Nat} (h : rB ts (-1) S k st = false) : reachK ts S st (k + 1) = reachK ts S st k := by
  unfold reachK; rw [List.range_succ, List.filter_append, List.map_append]; simp [h]
theorem reachK_len (ts : List T3) (S st k : Nat) : (reachK ts S st k).length ≤ k := by
  unfold reachK
  have := List.length_filter_le (fun to => rB ts (-1) S to st) (List.range k)
  simpa using this
theorem nats_of {S : Nat} {ts : List T3} (h : netB (S : Int) ts = true) : Nats ts S := fun i hi => tube_nats h rfl i hi
/-- Is a network strong without the tube 'wo'? -/
def strongB (ts : List T3) (wo : Int) (S : Nat) : Bool := (List.range S).all fun to => (List.range S).all fun v => rB ts wo S to v
theorem strong_iff {ts : List T3} {wo : Int} {S : Nat} (hN : Nats ts S) : strongB ts wo S = true ↔ ∀ to v, to < S → v < S → Rch ts wo to v := by
  unfold strongB
  simp only [List.all_eq_true, List.mem_range]
  constructor
  · intro h to v hto hv
    exact (rB_iff hN hto v).1 (h to hto v hv)
  · intro h to hto v hv
    exact (rB_iff hN hto v).2 (h to v hto hv)
end Go.Proofs.Ytbndminegokffaa
