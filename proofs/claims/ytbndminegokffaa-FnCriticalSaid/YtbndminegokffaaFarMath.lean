/-
  Stations that reach a station over tubes, and the numbers by which the model tells them: plain facts on lists.
-/
import Derived.Test.YtbndminegokffaaNetMath
import Derived.Test.YtbndminegokffaaBase
namespace Go.Proofs.Ytbndminegokffaa
open Go.RowKit

/-- A tube from u to v, other than the tube 'wo'. -/
def Ed (ts : List T3) (wo : Int) (u v : Nat) : Prop := ∃ i, ∃ h : i < ts.length, ¬ (i : Int) = wo ∧ ts[i].1 = (u : Int) ∧ ts[i].2.1 = (v : Int)
/-- The stations that reach 'to'. -/
inductive Rch (ts : List T3) (wo : Int) (to : Nat) : Nat → Prop
  | here : Rch ts wo to to
  | step {u v : Nat} : Ed ts wo u v → Rch ts wo to v → Rch ts wo to u

theorem sum_set (g : Int → Int) : ∀ (l : List Int) (i : Nat) (h : i < l.length) (x : Int), ((l.set i x).map g).sum + g l[i] = (l.map g).sum + g x
  | y :: l, 0, _, x => by simp only [List.set_cons_zero, List.map_cons, List.sum_cons, List.getElem_cons_zero]; omega
  | y :: l, i + 1, h, x => by
    have := sum_set g l i (by simpa using h) x
    simp only [List.set_cons_succ, List.map_cons, List.sum_cons, List.getElem_cons_succ]
    omega
def c1 (x : Int) : Int := if x < 0 then 0 else 1
def p1 (x : Int) : Int := if x < 0 then 20001 else x
/-- How many numbers are none less than 0. -/
def cntN (l : List Int) : Int := (l.map c1).sum
def pot (l : List Int) : Int := (l.map p1).sum
theorem c1_neg {x : Int} (h : x < 0) : c1 x = 0 := if_pos h
theorem c1_pos {x : Int} (h : ¬ x < 0) : c1 x = 1 := if_neg h
theorem p1_neg {x : Int} (h : x < 0) : p1 x = 20001 := if_pos h
theorem p1_pos {x : Int} (h : ¬ x < 0) : p1 x = x := if_neg h
theorem cnt_le : ∀ l : List Int, cntN l ≤ (l.length : Int)
  | [] => by simp [cntN]
  | x :: l => by
    have := cnt_le l
    have hc : c1 x ≤ 1 := by unfold c1; split <;> omega
    unfold cntN at *
    simp only [List.map_cons, List.sum_cons, List.length_cons]
    omega
theorem pot_ge : ∀ l : List Int, 0 ≤ pot l
  | [] => by simp [pot]
  | x :: l => by
    have := pot_ge l
    have hc : 0 ≤ p1 x := by unfold p1; split <;> omega
    unfold pot at *
    simp only [List.map_cons, List.sum_cons]
    omega
/-- What holds of the numbers all along. -/
structure FarI (ts : List T3) (wo : Int) (S to : Nat) (l : List Int) : Prop where
  len : l.length = S
  sound : ∀ v (h : v < l.length), 0 ≤ l[v] → Rch ts wo to v
  goal : ∀ h : to < l.length, 0 ≤ l[to]
  low : ∀ v (h : v < l.length), -1 ≤ l[v]
  hi : ∀ v (h : v < l.length), l[v] ≤ 2000 * cntN l - 2000
/-- The tube i makes no number less. -/
def ClosedAt (ts : List T3) (wo : Int) (l : List Int) (i : Nat) : Prop :=
  ∀ h : i < ts.length, ¬ (i : Int) = wo → ∀ f t : Nat, ts[i].1 = (f : Int) → ts[i].2.1 = (t : Int) → 0 ≤ l.getD t (-1) → 0 ≤ l.getD f (-1)
theorem getD_at {l : List Int} {v : Nat} (h : v < l.length) : l.getD v (-1) = l[v] := by rw [List.getD_eq_getElem?_getD, List.getElem?_eq_getElem h, Option.getD_some]
theorem sum_rep (g : Int → Int) (S : Nat) (x : Int) : ((List.replicate S x).map g).sum = (S : Int) * g x := by
  induction S with
  | zero => simp
  | succ S ih => rw [List.replicate_succ, List.map_cons, List.sum_cons, ih, Int.natCast_succ, Int.add_mul]; omega
theorem far_start (ts : List T3) (wo : Int) {S to : Nat} (h : to < S) : FarI ts wo S to ((List.replicate S (-1)).set to 0) := by
  have hl : ((List.replicate S (-1 : Int)).set to 0).length = S := by simp
  have hat : ∀ v (h : v < ((List.replicate S (-1 : Int)).set to 0).length), ((List.replicate S (-1 : Int)).set to 0)[v] = if to = v then 0 else -1 := fun v hv => by
    rw [List.getElem_set]; split <;> simp
  have hc : cntN ((List.replicate S (-1 : Int)).set to 0) = 1 := by
    have := sum_set c1 (List.replicate S (-1)) to (by simpa using h) 0
    rw [sum_rep, List.getElem_replicate, c1_neg (by omega : (-1 : Int) < 0), c1_pos (by omega : ¬ (0 : Int) < 0)] at this
    unfold cntN
    omega
  refine ⟨hl, fun v hv h0 => ?_, fun hv => ?_, fun v hv => ?_, fun v hv => ?_⟩
  · rw [hat] at h0
    split at h0
    · rename_i e; subst e; exact .here
    · omega
  · rw [hat, if_pos rfl]; omega
  · rw [hat]; split <;> omega
  · rw [hat, hc]; split <;> omega
theorem far_step {ts : List T3} {wo : Int} {S to : Nat} {l : List Int} (F : FarI ts wo S to l) (hS : S ≤ 10) {i f t : Nat} {len : Int} (hi : i < ts.length) (hwo : ¬ (i : Int) = wo) (e1 : ts[i].1 = (f : Int)) (e2 : ts[i].2.1 = (t : Int)) (hf : f < l.length) (ht : t < l.length) (h1 : 1 ≤ len) (h2 : len ≤ 2000)
    (h0 : ¬ l[t] < 0) (hx : l[f] < 0 ∨ l[t] + len < l[f]) : FarI ts wo S to (l.set f (l[t] + len)) ∧ pot (l.set f (l[t] + len)) < pot l := by
  have hat : ∀ v (h : v < (l.set f (l[t] + len)).length), (l.set f (l[t] + len))[v] = if f = v then l[t] + len else l[v]'(by simpa using h) := fun v hv => by rw [List.getElem_set]
  have hc := sum_set c1 l f hf (l[t] + len)
  have hp := sum_set p1 l f hf (l[t] + len)
  have hct : cntN l ≤ (S : Int) := by rw [← F.len]; exact cnt_le l
  have hit := F.hi t ht
  rw [c1_pos (by omega : ¬ l[t] + len < 0)] at hc
  rw [p1_pos (by omega : ¬ l[t] + len < 0)] at hp
  have key : cntN l ≤ cntN (l.set f (l[t] + len)) ∧ l[t] + len ≤ 2000 * cntN (l.set f (l[t] + len)) - 2000 ∧ pot (l.set f (l[t] + len)) < pot l := by
    have hct2 : cntN (l.set f (l[t] + len)) ≤ (S : Int) := by
      have := cnt_le (l.set f (l[t] + len)); rw [List.length_set, F.len] at this; exact this
    rcases Int.lt_or_le l[f] 0 with hn | hn
    · rw [c1_neg hn] at hc
      rw [p1_neg hn] at hp
      unfold cntN pot at *
      omega
    · have hif := F.hi f hf
      rw [c1_pos (by omega)] at hc
      rw [p1_pos (by omega)] at hp
      unfold cntN pot at *
      omega
  refine ⟨⟨by rw [List.length_set, F.len], fun v hv hv0 => ?_, fun hv => ?_, fun v hv => ?_, fun v hv => ?_⟩, key.2.2⟩
  · rw [hat] at hv0
    split at hv0
    · rename_i e; subst e; exact .step ⟨i, hi, hwo, e1, e2⟩ (F.sound t ht (by omega))
    · exact F.sound v (by simpa using hv) hv0
  · rw [hat]
    split
    · omega
    · exact F.goal (by simpa using hv)
  · rw [hat]
    split
    · omega
    · exact F.low v (by simpa using hv)
  · rw [hat]
    split
    · omega
    · have := F.hi v (by simpa using hv); omega
/-- In the end the numbers tell who reaches. -/
theorem far_end {ts : List T3} {wo : Int} {S to : Nat} {l : List Int} (F : FarI ts wo S to l) (hto : to < S) (hc : ∀ i, i < ts.length → ClosedAt ts wo l i) :
    ∀ v (h : v < l.length), (0 ≤ l[v]) ↔ Rch ts wo to v := by
  intro v hv
  refine ⟨F.sound v hv, fun hr => ?_⟩
  have : ∀ v, Rch ts wo to v → 0 ≤ l.getD v (-1) := by
    intro v hr
    induction hr with
    | here => rw [getD_at (by rw [F.len]; exact hto)]; exact F.goal _
    | step he _ ih =>
      obtain ⟨i, hi, hw, e1, e2⟩ := he
      exact hc i hi hi hw _ _ e1 e2 ih
  have := this v hr
  rwa [getD_at hv] at this
theorem tube_nats {s : Int} {ts : List T3} {S : Nat} (h : netB s ts = true) (hs : s = (S : Int)) (i : Nat) (hi : i < ts.length) : ∃ f t : Nat, ts[i].1 = (f : Int) ∧ ts[i].2.1 = (t : Int) ∧ f < S ∧ t < S := by
  have := (netB_parts h).2.2.2 _ (List.getElem_mem hi)
  unfold tubeB at this
  have := of_decide_eq_true this
  exact ⟨(ts[i].1).toNat, (ts[i].2.1).toNat, by omega, by omega, by omega, by omega⟩
end Go.Proofs.Ytbndminegokffaa
