/-
  Settings of switches: when a list is one, and where a carrier runs by it.
-/
import Derived.Test.YtenjigifjkfiaaaNetMath
namespace Go.Proofs.Ytenjigifjkfiaaa
open Go.RowKit

def setAt (set : List Int) (x : Int) : Int := (set[x.toNat]?).getD (-1)
def okAt (ts : List T3) (i : Nat) (k : Int) : Bool := k == -1 || (stB ts.length k && ((ts[k.toNat]?).map (·.1) == some (i : Int)))
def setB (s : Int) (ts : List T3) (set : List Int) : Bool := netB s ts && decide ((set.length : Int) = s) && decide (∀ i (h : i < set.length), okAt ts i set[i] = true)

theorem setB_inv {s : Int} {ts : List T3} {set : List Int} (h : netB s ts = false) : setB s ts set = false := by unfold setB; rw [h]; rfl
theorem setB_len {s : Int} {ts : List T3} {set : List Int} (h : ¬ (set.length : Int) = s) : setB s ts set = false := by unfold setB; rw [decide_eq_false h]; simp
theorem setB_bad {s : Int} {ts : List T3} {set : List Int} (k : Nat) (hk : k < set.length) (h : okAt ts k set[k] = false) : setB s ts set = false := by
  unfold setB
  have : ¬ ∀ i (h : i < set.length), okAt ts i set[i] = true := fun g => by have := g k hk; rw [h] at this; exact absurd this (by decide)
  rw [decide_eq_false this]; simp
theorem setB_good {s : Int} {ts : List T3} {set : List Int} (h : netB s ts = true) (hl : (set.length : Int) = s) (hg : ∀ i (h : i < set.length), okAt ts i set[i] = true) : setB s ts set = true := by
  unfold setB; rw [h, decide_eq_true hl, decide_eq_true hg]; rfl
theorem setB_parts {s : Int} {ts : List T3} {set : List Int} (h : setB s ts set = true) : netB s ts = true ∧ (set.length : Int) = s ∧ ∀ i (h : i < set.length), okAt ts i set[i] = true := by
  unfold setB at h
  rw [Bool.and_eq_true, Bool.and_eq_true] at h
  exact ⟨h.1.1, of_decide_eq_true h.1.2, of_decide_eq_true h.2⟩
theorem okAt_stop (ts : List T3) (i : Nat) : okAt ts i (-1) = true := rfl
theorem okAt_out {ts : List T3} {i : Nat} {k : Int} (h0 : ¬ k = -1) (h : stB ts.length k = false) : okAt ts i k = false := by
  unfold okAt; rw [h]; simp [h0]
theorem okAt_hit {ts : List T3} {i j : Nat} {t : T3} (h : ts[j]? = some t) : okAt ts i (j : Int) = (t.1 == (i : Int)) := by
  have hj : j < ts.length := by rw [List.getElem?_eq_some_iff] at h; exact h.1
  have h1 : stB ts.length (j : Int) = true := by unfold stB; exact decide_eq_true (by omega)
  have h0 : ¬ (j : Int) = -1 := by omega
  unfold okAt
  rw [h1, Int.toNat_natCast, h]
  simp [h0]

theorem setAt_get {set : List Int} {k : Nat} (h : k < set.length) : setAt set (k : Int) = set[k] := by
  unfold setAt; simp [h]

/-- What a setting has at a station: nothing, or a tube that begins there. -/
theorem setB_at {s : Int} {ts : List T3} {set : List Int} (h : setB s ts set = true) {x : Int} (hx : stB s x = true) :
    ∃ k : Nat, x = (k : Int) ∧ ∃ hk : k < set.length, setAt set x = set[k] ∧ (set[k] = -1 ∨ ∃ (j : Nat) (t : T3), set[k] = (j : Int) ∧ ts[j]? = some t ∧ t.1 = x ∧ stB s t.2.1 = true) := by
  obtain ⟨hn, hl, hg⟩ := setB_parts h
  obtain ⟨_, _, _, hT⟩ := netB_parts hn
  unfold stB at hx
  have hx := of_decide_eq_true hx
  refine ⟨x.toNat, by omega, by omega, ?_, ?_⟩
  · have : (x.toNat : Int) = x := by omega
    have e := setAt_get (set := set) (k := x.toNat) (by omega)
    rw [this] at e; exact e
  · have hk : x.toNat < set.length := by omega
    have ho := hg x.toNat hk
    generalize set[x.toNat] = k at ho
    unfold okAt at ho
    by_cases h0 : k = -1
    · exact .inl h0
    · right
      simp only [Bool.or_eq_true, beq_iff_eq, h0, false_or, Bool.and_eq_true] at ho
      obtain ⟨o1, o2⟩ := ho
      unfold stB at o1
      have o1 := of_decide_eq_true o1
      have hj : k.toNat < ts.length := by omega
      rw [List.getElem?_eq_getElem hj] at o2
      have o2 : (ts[k.toNat]).1 = ((x.toNat : Nat) : Int) := by simpa using o2
      have hm := hT _ (List.getElem_mem hj)
      unfold tubeB at hm
      have hm := of_decide_eq_true hm
      exact ⟨k.toNat, ts[k.toNat], by omega, List.getElem?_eq_getElem hj, by omega, by unfold stB; exact decide_eq_true ⟨hm.2.2.1, hm.2.2.2.1⟩⟩

def nextAt (ts : List T3) (set : List Int) (x : Int) : Int := ((ts[(setAt set x).toNat]?).map (·.2.1)).getD 0
theorem nextAt_of {ts : List T3} {set : List Int} {x : Int} {j : Nat} {t : T3} (h : setAt set x = (j : Int)) (ht : ts[j]? = some t) : nextAt ts set x = t.2.1 := by
  unfold nextAt; rw [h, Int.toNat_natCast, ht]; rfl
def finAt (set : List Int) (to x : Int) : Prop := x = to ∨ setAt set x = -1
instance (set : List Int) (to x : Int) : Decidable (finAt set to x) := by unfold finAt; infer_instance
/-- The tubes through which a carrier runs to a station or until it stops, and where it is then; nothing if that is after f stations not so. -/
def runF (ts : List T3) (set : List Int) (to : Int) : Nat → Int → Option (List Int × Int)
  | 0, _ => none
  | f + 1, x => if finAt set to x then some ([], x) else (runF ts set to f (nextAt ts set x)).map fun p => (setAt set x :: p.1, p.2)

def itAt (ts : List T3) (set : List Int) : Nat → Int → Int
  | 0, x => x
  | k + 1, x => itAt ts set k (nextAt ts set x)
theorem itAt_add (ts : List T3) (set : List Int) (a b : Nat) (x : Int) : itAt ts set (a + b) x = itAt ts set b (itAt ts set a x) := by
  induction a generalizing x with
  | zero => simp [itAt]
  | succ a ih => rw [show a + 1 + b = (a + b) + 1 by omega]; exact ih _
theorem run_none {ts : List T3} {set : List Int} {to : Int} (f : Nat) (x : Int) : runF ts set to f x = none ↔ ∀ i, i < f → ¬ finAt set to (itAt ts set i x) := by
  induction f generalizing x with
  | zero => exact ⟨fun _ i h => absurd h (by omega), fun _ => rfl⟩
  | succ f ih =>
    unfold runF
    by_cases h : finAt set to x
    · rw [if_pos h]
      exact ⟨fun g => by simp at g, fun g => absurd h (g 0 (by omega))⟩
    · rw [if_neg h, Option.map_eq_none_iff, ih]
      constructor
      · rintro g (_ | i) hi
        · exact h
        · exact g i (by omega)
      · intro g i hi
        exact g (i + 1) (by omega)
theorem run_more {ts : List T3} {set : List Int} {to : Int} (f d : Nat) (x : Int) {r : List Int × Int} (h : runF ts set to f x = some r) : runF ts set to (f + d) x = some r := by
  induction f generalizing x r with
  | zero => exact absurd h (by simp [runF])
  | succ f ih =>
    rw [show f + 1 + d = (f + d) + 1 by omega]
    unfold runF at h ⊢
    by_cases hf : finAt set to x
    · rw [if_pos hf] at h ⊢; exact h
    · rw [if_neg hf] at h ⊢
      cases hr : runF ts set to f (nextAt ts set x) with
      | none => rw [hr] at h; exact absurd h (by simp)
      | some r' => rw [ih _ hr]; rw [hr] at h; exact h

theorem pigeon (s : Nat) (f : Nat → Nat) (h : ∀ i, i ≤ s → f i < s) : ∃ i j, i < j ∧ j ≤ s ∧ f i = f j := by
  induction s generalizing f with
  | zero => exact absurd (h 0 (Nat.le_refl _)) (by omega)
  | succ s ih =>
    by_cases hx : ∃ i, i < s + 1 ∧ f i = f (s + 1)
    · obtain ⟨i, hi, he⟩ := hx
      exact ⟨i, s + 1, hi, Nat.le_refl _, he⟩
    · have hne : ∀ i, i < s + 1 → ¬ f i = f (s + 1) := fun i hi e => hx ⟨i, hi, e⟩
      have hlast := h (s + 1) (Nat.le_refl _)
      obtain ⟨i, j, hij, hj, he⟩ := ih (fun i => if f i = s then f (s + 1) else f i) (fun i hi => by
        have h1 := h i (by omega)
        have h2 := hne i (by omega)
        by_cases e : f i = s
        · simp only [e, if_true]; omega
        · simp only [e, if_false]; omega)
      have h1 := hne i (by omega)
      have h2 := hne j (by omega)
      refine ⟨i, j, hij, by omega, ?_⟩
      by_cases e1 : f i = s <;> by_cases e2 : f j = s <;> simp only [e1, e2, if_true, if_false] at he ⊢ <;> omega

/-- Within as many stations as there are, or never. -/
theorem run_enough {s : Int} {ts : List T3} {set : List Int} (hset : setB s ts set = true) {x : Int} (hx : stB s x = true) (to : Int) (d : Nat) : runF ts set to (s.toNat + d) x = runF ts set to s.toNat x := by
  cases hr : runF ts set to s.toNat x with
  | some r => exact run_more _ _ _ hr
  | none =>
    rw [run_none] at hr ⊢
    have hclosed : ∀ y, stB s y = true → ¬ finAt set to y → stB s (nextAt ts set y) = true := by
      intro y hy hf
      obtain ⟨k, _, hk, e, o⟩ := setB_at hset hy
      rcases o with o | ⟨j, t, o1, o2, _, o4⟩
      · exact absurd (.inr (e.trans o)) hf
      · rw [nextAt_of (e.trans o1) o2]; exact o4
    have hst : ∀ i, i ≤ s.toNat → stB s (itAt ts set i x) = true := by
      intro i
      induction i with
      | zero => intro _; exact hx
      | succ i ih =>
        intro hi
        rw [itAt_add ts set i 1]
        exact hclosed _ (ih (by omega)) (hr i (by omega))
    obtain ⟨i, j, hij, hj, he⟩ := pigeon s.toNat (fun i => (itAt ts set i x).toNat) (fun i hi => by
      have := hst i hi
      unfold stB at this
      have := of_decide_eq_true this

      omega)
    have he : itAt ts set i x = itAt ts set j x := by
      have a := hst i (by omega)
      have b := hst j hj
      unfold stB at a b
      have a := of_decide_eq_true a
      have b := of_decide_eq_true b

      omega
    have hper : ∀ k, ∃ k', k' < j ∧ itAt ts set k x = itAt ts set k' x := by
      intro k
      induction k using Nat.strongRecOn with
      | _ k ih =>
        by_cases hk : k < j
        · exact ⟨k, hk, rfl⟩
        · obtain ⟨k', h1, h2⟩ := ih (i + (k - j)) (by omega)
          refine ⟨k', h1, ?_⟩
          rw [← h2, itAt_add, he, ← itAt_add, show j + (k - j) = k by omega]
    intro k _
    obtain ⟨k', h1, h2⟩ := hper k
    rw [h2]
    exact hr k' (by omega)

/-- What is gathered so far, and what is to come: the loops' relation. -/
def Runs (ts : List T3) (set : List Int) (to : Int) (F : Nat) (x0 : Int) (f : Nat) (out : List Int) (x : Int) : Prop := runF ts set to F x0 = (runF ts set to f x).map fun p => (out ++ p.1, p.2)
theorem Runs.start (ts : List T3) (set : List Int) (to : Int) (F : Nat) (x0 : Int) : Runs ts set to F x0 F [] x0 := by
  unfold Runs; cases runF ts set to F x0 <;> simp
theorem Runs.step {ts : List T3} {set : List Int} {to : Int} {F : Nat} {x0 : Int} {f : Nat} {out : List Int} {x : Int} (h : Runs ts set to F x0 (f + 1) out x) (hf : ¬ finAt set to x) : Runs ts set to F x0 f (out ++ [setAt set x]) (nextAt ts set x) := by
  unfold Runs at h ⊢
  rw [h]
  show Option.map _ (if finAt set to x then _ else _) = _
  rw [if_neg hf, Option.map_map]
  congr 1
  funext p
  simp
theorem Runs.fin {ts : List T3} {set : List Int} {to : Int} {F : Nat} {x0 : Int} {f : Nat} {out : List Int} {x : Int} (h : Runs ts set to F x0 (f + 1) out x) (hf : finAt set to x) : runF ts set to F x0 = some (out, x) := by
  unfold Runs at h
  rw [h]
  show Option.map _ (if finAt set to x then _ else _) = _
  rw [if_pos hf]
  simp
theorem Runs.never {ts : List T3} {set : List Int} {to : Int} {F : Nat} {x0 : Int} {out : List Int} {x : Int} (h : Runs ts set to F x0 0 out x) : runF ts set to F x0 = none := h
end Go.Proofs.Ytenjigifjkfiaaa
