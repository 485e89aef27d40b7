/-
  Meetings of runs: when passages have a common tick, the first that meets. Plain facts.
-/
import Derived.Test.YtgjbahnloladfaaRunMath
namespace Go.Proofs.Ytgjbahnloladfaa
open Go.RowKit

def meetP (p q : TPass) : Bool := (p.2.2 == q.2.2) && decide (max p.1 q.1 < min p.2.1 q.2.1)
def meetS (p q : TPass) : Bool := (p.2.2 == q.2.2) && (decide (p.1 < q.2.1) && decide (q.1 < p.2.1))
theorem meetP_S {p q : TPass} (hp : p.1 < p.2.1) (hq : q.1 < q.2.1) : meetP p q = meetS p q := by
  unfold meetP meetS
  congr 1
  rw [Bool.eq_iff_iff]
  simp only [decide_eq_true_eq, Bool.and_eq_true]
  omega
/-- The first passage that meets one of the others. -/
def mx (ps qs : List TPass) : Option Nat := ps.findIdx? (fun p => qs.any (meetP p))
theorem any_yes {α : Type} {f : α → Bool} {l : List α} (k : Nat) (hk : k < l.length) (h : f l[k] = true) : l.any f = true := List.any_eq_true.2 ⟨l[k], List.getElem_mem hk, h⟩
theorem any_no {α : Type} {f : α → Bool} {l : List α} (h : ∀ k (hk : k < l.length), f l[k] = false) : l.any f = false := by
  rw [List.any_eq_false]
  intro x hx
  obtain ⟨k, hk, rfl⟩ := List.getElem_of_mem hx
  simp [h k hk]
theorem mx_some {ps qs : List TPass} (k : Nat) (hk : k < ps.length) (h : qs.any (meetP ps[k]) = true) (hb : ∀ j (hj : j < ps.length), j < k → qs.any (meetP ps[j]) = false) : mx ps qs = some k := by
  unfold mx
  rw [List.findIdx?_eq_some_iff_getElem]
  exact ⟨hk, h, fun j hjk => by simp [hb j (by omega) hjk]⟩
theorem mx_none {ps qs : List TPass} (hb : ∀ j (hj : j < ps.length), qs.any (meetP ps[j]) = false) : mx ps qs = none := by
  unfold mx
  rw [List.findIdx?_eq_none_iff]
  intro x hx
  obtain ⟨k, hk, rfl⟩ := List.getElem_of_mem hx
  exact hb k hk
theorem mx_lt {ps qs : List TPass} {k : Nat} (h : mx ps qs = some k) : k < ps.length := by
  unfold mx at h
  rw [List.findIdx?_eq_some_iff_getElem] at h
  exact h.1
def midx (ps qs : List TPass) : Int := match mx ps qs with | some k => (k : Int) | none => -1
def mtube (ps qs : List TPass) : Int × Bool := match mx ps qs with | some k => ((ps.getD k (0, 0, 0)).2.2, true) | none => (0, false)
theorem midx_some {ps qs : List TPass} {k : Nat} (h : mx ps qs = some k) : midx ps qs = k := by unfold midx; rw [h]
theorem midx_none {ps qs : List TPass} (h : mx ps qs = none) : midx ps qs = -1 := by unfold midx; rw [h]
theorem mtube_some {ps qs : List TPass} {k : Nat} (h : mx ps qs = some k) (hk : k < ps.length) : mtube ps qs = (ps[k].2.2, true) := by
  unfold mtube; rw [h]; simp only [List.getD_eq_getElem?_getD, List.getElem?_eq_getElem hk, Option.getD_some]
theorem mtube_none {ps qs : List TPass} (h : mx ps qs = none) : mtube ps qs = (0, false) := by unfold mtube; rw [h]
/-- The passages of the run i. -/
def psOf (l : List Int) (ts : List TRun) (i : Nat) : List TPass := passOf l (ts.getD i ([], 0))
theorem psOf_at (l : List Int) (ts : List TRun) (i : Nat) (h : i < ts.length) : psOf l ts i = passOf l ts[i] := by unfold psOf; rw [List.getD_eq_getElem?_getD, List.getElem?_eq_getElem h]; rfl
def seekJ (l : List Int) (ts : List TRun) (i : Nat) : Option (Int × Int × Int) := (List.range i).findSome? fun j => if (mtube (psOf l ts i) (psOf l ts j)).2 = true then some ((i : Int), (j : Int), (mtube (psOf l ts i) (psOf l ts j)).1) else none
def seekI (l : List Int) (ts : List TRun) : Option (Int × Int × Int) := (List.range ts.length).findSome? (seekJ l ts)
def meetOf (l : List Int) (ts : List TRun) : Int × Int × Int × Int :=
  if rsB l ts = true then (match seekI l ts with | some (i, j, x) => (i, j, x, 0) | none => (0, 0, 0, 3)) else (0, 0, 0, 1)
theorem find_at {α : Type} {f : Nat → Option α} {n k : Nat} {x : α} (hk : k < n) (h : f k = some x) (hb : ∀ j, j < k → f j = none) : (List.range n).findSome? f = some x := by
  induction n with
  | zero => omega
  | succ n ih =>
    rw [List.range_succ, List.findSome?_append]
    by_cases hkn : k < n
    · rw [ih hkn]; rfl
    · have : k = n := by omega
      subst this
      have hn : (List.range k).findSome? f = none := by
        rw [List.findSome?_eq_none_iff]
        intro y hy
        exact hb y (List.mem_range.1 hy)
      rw [hn]
      simp [h]
theorem find_none {α : Type} {f : Nat → Option α} {n : Nat} (hb : ∀ j, j < n → f j = none) : (List.range n).findSome? f = none := by
  rw [List.findSome?_eq_none_iff]
  intro y hy
  exact hb y (List.mem_range.1 hy)
theorem meetOf_bad {l : List Int} {ts : List TRun} (h : rsB l ts = false) : meetOf l ts = (0, 0, 0, 1) := by unfold meetOf; rw [h]; rfl
theorem meetOf_none {l : List Int} {ts : List TRun} (h : rsB l ts = true) (hb : ∀ i, i < ts.length → seekJ l ts i = none) : meetOf l ts = (0, 0, 0, 3) := by
  unfold meetOf seekI; rw [if_pos h, find_none hb]
theorem meetOf_at {l : List Int} {ts : List TRun} {i j k : Nat} (h : rsB l ts = true) (hi : i < ts.length) (hj : j < i) (hm : mx (psOf l ts i) (psOf l ts j) = some k) (hbj : ∀ q, q < j → mx (psOf l ts i) (psOf l ts q) = none) (hbi : ∀ q, q < i → seekJ l ts q = none) :
    ∃ hk : k < ts[i].1.length, meetOf l ts = ((i : Int), (j : Int), ts[i].1[k], 0) := by
  have hk := mx_lt hm
  have hk' : k < ts[i].1.length := by rw [psOf_at _ _ _ hi, passOf_length] at hk; exact hk
  refine ⟨hk', ?_⟩
  have ht := mtube_some hm hk
  have hsj : seekJ l ts i = some ((i : Int), (j : Int), ts[i].1[k]) := by
    unfold seekJ
    refine find_at (k := j) hj ?_ (fun q hq => ?_)
    · rw [ht]
      simp only [psOf_at _ _ _ hi, if_true]
      rw [passOf_get l ts[i] k hk']
    · rw [mtube_none (hbj q hq)]; rfl
  unfold meetOf seekI
  rw [if_pos h, find_at (k := i) hi hsj hbi]
theorem seekJ_none {l : List Int} {ts : List TRun} {i : Nat} (h : ∀ q, q < i → mx (psOf l ts i) (psOf l ts q) = none) : seekJ l ts i = none := by
  unfold seekJ
  exact find_none fun q hq => by rw [mtube_none (h q hq)]; rfl
end Go.Proofs.Ytgjbahnloladfaa
