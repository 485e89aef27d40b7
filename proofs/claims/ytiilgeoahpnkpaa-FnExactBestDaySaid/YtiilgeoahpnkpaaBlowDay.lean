/-
  Blowers: the cheapest day, hour by hour from the last one. Nothing of the program stands here.
-/
import Derived.Test.YtiilgeoahpnkpaaBlow11
namespace Go.Proofs.Ytiilgeoahpnkpaa
open Go.RowKit

theorem chE_least {p : Nat → Bool} {c : Nat → Int} (hc : ∀ i, c i < 9223372036854775807) : ∀ i, (∀ j, j < i → p j = true → (chE p c i).2 ≤ c j) ∧ ∀ j, j < (chE p c i).1 → p j = true → (chE p c i).2 < c j
  | 0 => ⟨fun j hj => by omega, fun j hj => by simp [chE] at hj⟩
  | i + 1 => by
    obtain ⟨h1, h2⟩ := chE_least (p := p) hc i
    rw [chE]
    by_cases h : p i = true ∧ c i < (chE p c i).2
    · rw [if_pos h]
      refine ⟨fun j hj hp => ?_, fun j hj hp => ?_⟩
      · by_cases e : j = i
        · subst e; exact Int.le_refl _
        · have := h1 j (by omega) hp; dsimp only; omega
      · have := h1 j hj hp; dsimp only; omega
    · rw [if_neg h]
      refine ⟨fun j hj hp => ?_, h2⟩
      by_cases e : j = i
      · subst e
        have : ¬ c j < (chE p c j).2 := fun hlt => h ⟨hp, hlt⟩
        omega
      · exact h1 j (by omega) hp
/-- The cheapest one is had where one has enough. -/
theorem chE_got {p : Nat → Bool} {c : Nat → Int} (hc : ∀ i, c i < 9223372036854775807) {i s : Nat} (hs : s < i) (hp : p s = true) : (chE p c i).2 = c (chE p c i).1 ∧ p (chE p c i).1 = true ∧ (chE p c i).1 < i := by
  rcases chE_of (p := p) hc i with ⟨_, h2⟩ | h
  · rw [h2 s hs] at hp; cases hp
  · exact h
/-- The model's least cost: -1 where none has enough. -/
def bestV (p : Nat → Bool) (c : Nat → Int) : Nat → Int
  | 0 => -1
  | i + 1 => if p i = true ∧ (bestV p c i < 0 ∨ c i < bestV p c i) then c i else bestV p c i
theorem bestV_none {p : Nat → Bool} {c : Nat → Int} : ∀ {i : Nat}, (∀ j, j < i → p j = false) → bestV p c i = -1
  | 0, _ => rfl
  | i + 1, h => by rw [bestV, if_neg (fun q => by rw [h i (by omega)] at q; exact absurd q.1 (by decide)), bestV_none fun j hj => h j (by omega)]
theorem bestV_of {p : Nat → Bool} {c : Nat → Int} (hc : ∀ i, 0 ≤ c i ∧ c i < 9223372036854775807) : ∀ i, (bestV p c i = -1 ∧ (chE p c i).2 = 9223372036854775807) ∨ (bestV p c i = (chE p c i).2 ∧ 0 ≤ bestV p c i)
  | 0 => .inl ⟨rfl, rfl⟩
  | i + 1 => by
    have hci := hc i
    rcases bestV_of (p := p) hc i with ⟨h1, h2⟩ | ⟨h1, h2⟩
    · by_cases hp : p i = true
      · right
        rw [bestV, chE, if_pos ⟨hp, .inl (by omega)⟩, if_pos ⟨hp, by omega⟩]
        exact ⟨rfl, by omega⟩
      · left
        rw [bestV, chE, if_neg (fun h => hp h.1), if_neg (fun h => hp h.1)]
        exact ⟨h1, h2⟩
    · right
      by_cases hq : p i = true ∧ c i < (chE p c i).2
      · rw [bestV, chE, if_pos ⟨hq.1, .inr (by omega)⟩, if_pos hq]
        exact ⟨rfl, by omega⟩
      · rw [bestV, chE, if_neg (fun h => hq ⟨h.1, by rcases h.2 with h3 | h3 <;> omega⟩), if_neg hq]
        exact ⟨h1, h2⟩

section
variable (ts : List TBlower) (ns : List Int)
def allN : Nat := 2 ^ ts.length
def dayP (h s : Nat) : Bool := pwB ts ts.length (ns.getD h 0) s
/-- What the last j hours cost at least behind a set. -/
def restD : Nat → Nat → Int
  | 0, _ => 0
  | j + 1, b => (chE (dayP ts ns (ns.length - 1 - j)) (fun s => stepS ts b s + restD j s) (allN ts)).2
def dayC (h b s : Nat) : Int := stepS ts b s + restD ts ns (ns.length - (h + 1)) s
def bestA (h b : Nat) : Nat := (chE (dayP ts ns h) (dayC ts ns h b) (allN ts)).1
def pathB : Nat → Nat
  | 0 => 0
  | h + 1 => bestA ts ns h (pathB h)
def pathL (k : Nat) : List Int := (List.range k).map fun h => ((pathB ts ns (h + 1) : Nat) : Int)
def feasB : Bool := ns.all fun f => pwB ts ts.length f (2 ^ ts.length - 1)
def dayOf : List Int × Int × Int := if ncode ts ns = 0 then (if feasB ts ns = true then (pathL ts ns ns.length, restD ts ns ns.length 0, 0) else ([], 0, 3)) else ([], 0, ncode ts ns)
/-- The model's. -/
def specD : Nat → Nat → Int
  | 0, _ => 0
  | j + 1, b => bestV (fun s => dayP ts ns (ns.length - 1 - j) s && decide (0 ≤ specD j s)) (fun s => stepS ts b s + specD j s) (allN ts)
end
variable {ts : List TBlower} {ns : List Int}
theorem restD_at {h b : Nat} (hh : h < ns.length) : restD ts ns (ns.length - h) b = (chE (dayP ts ns h) (dayC ts ns h b) (allN ts)).2 := by
  obtain ⟨j, hj⟩ : ∃ j, ns.length - h = j + 1 := ⟨ns.length - h - 1, by omega⟩
  rw [hj, restD]
  have e1 : ns.length - 1 - j = h := by omega
  have e2 : ns.length - (h + 1) = j := by omega
  unfold dayC
  rw [e1, e2]
theorem feas_at (hf : feasB ts ns = true) {h : Nat} (hh : h < ns.length) : dayP ts ns h (2 ^ ts.length - 1) = true := by
  unfold dayP
  rw [getD_atI hh]
  exact all_at (f := fun f => pwB ts ts.length f (2 ^ ts.length - 1)) hf h hh
theorem top_lt (ts : List TBlower) : 2 ^ ts.length - 1 < allN ts := by have := Nat.two_pow_pos ts.length; unfold allN; omega
theorem restD_bd (hv : blsB ts = true) (hf : feasB ts ns = true) : ∀ j, j ≤ ns.length → j ≤ 24 → ∀ b, 0 ≤ restD ts ns j b ∧ restD ts ns j b ≤ 80000 * j
  | 0, _, _, b => by simp [restD]
  | j + 1, hj, h24, b => by
    have ih := restD_bd hv hf j (by omega) (by omega)
    have hcb : ∀ i, 0 ≤ stepS ts b i + restD ts ns j i ∧ stepS ts b i + restD ts ns j i ≤ 80000 * (j + 1 : Nat) := fun i => by have := ih i; have := stepS_bd hv b i; omega
    have hp := feas_at hf (h := ns.length - 1 - j) (by omega)
    obtain ⟨h1, _, _⟩ := chE_got (p := dayP ts ns (ns.length - 1 - j)) (c := fun s => stepS ts b s + restD ts ns j s) (fun i => by have := hcb i; omega) (top_lt ts) hp
    rw [restD, h1]
    exact hcb _
theorem dayC_bd (hv : blsB ts = true) (hf : feasB ts ns = true) (h24 : ns.length ≤ 24) (h b s : Nat) : 0 ≤ dayC ts ns h b s ∧ dayC ts ns h b s ≤ 2000000 := by
  have h1 := restD_bd hv hf (ns.length - (h + 1)) (by omega) (by omega) s
  have h2 := stepS_bd hv b s
  unfold dayC
  omega
theorem best_got (hv : blsB ts = true) (hf : feasB ts ns = true) (h24 : ns.length ≤ 24) {h : Nat} (hh : h < ns.length) (b : Nat) : restD ts ns (ns.length - h) b = dayC ts ns h b (bestA ts ns h b) ∧ dayP ts ns h (bestA ts ns h b) = true ∧ bestA ts ns h b < allN ts := by
  obtain ⟨h1, h2, h3⟩ := chE_got (p := dayP ts ns h) (c := dayC ts ns h b) (fun i => by have := dayC_bd hv hf h24 h b i; omega) (top_lt ts) (feas_at hf hh)
  exact ⟨by rw [restD_at hh, h1]; rfl, h2, h3⟩
theorem best_first (hv : blsB ts = true) (hf : feasB ts ns = true) (h24 : ns.length ≤ 24) {h : Nat} (hh : h < ns.length) (b : Nat) {s : Nat} (hs : s < bestA ts ns h b) (hp : dayP ts ns h s = true) : dayC ts ns h b s ≠ restD ts ns (ns.length - h) b := by
  have := (chE_least (p := dayP ts ns h) (c := dayC ts ns h b) (fun i => by have := dayC_bd hv hf h24 h b i; omega) (allN ts)).2 s hs hp
  rw [restD_at hh]
  omega
theorem pathB_lt (hv : blsB ts = true) (hf : feasB ts ns = true) (h24 : ns.length ≤ 24) : ∀ h, h ≤ ns.length → pathB ts ns h < allN ts
  | 0, _ => Nat.two_pow_pos _
  | h + 1, hh => (best_got hv hf h24 (show h < ns.length by omega) _).2.2
theorem pathL_succ (k : Nat) : pathL ts ns (k + 1) = pathL ts ns k ++ [((bestA ts ns k (pathB ts ns k) : Nat) : Int)] := by
  unfold pathL
  rw [List.range_succ, List.map_append]
  rfl
theorem pathL_len (k : Nat) : (pathL ts ns k).length = k := by simp [pathL]
theorem specD_good (hv : blsB ts = true) (hf : feasB ts ns = true) (h24 : ns.length ≤ 24) : ∀ j, j ≤ ns.length → ∀ b, specD ts ns j b = restD ts ns j b
  | 0, _, b => rfl
  | j + 1, hj, b => by
    have ih := specD_good hv hf h24 j (by omega)
    have ihb := restD_bd hv hf j (by omega) (by omega)
    have e1 : (fun s => dayP ts ns (ns.length - 1 - j) s && decide (0 ≤ specD ts ns j s)) = dayP ts ns (ns.length - 1 - j) := by
      funext s
      rw [ih s, decide_eq_true (ihb s).1, Bool.and_true]
    have e2 : (fun s => stepS ts b s + specD ts ns j s) = fun s => stepS ts b s + restD ts ns j s := by
      funext s
      rw [ih s]
    have hcb : ∀ i, 0 ≤ stepS ts b i + restD ts ns j i ∧ stepS ts b i + restD ts ns j i < 9223372036854775807 := fun i => by have := ihb i; have := stepS_bd hv b i; omega
    rw [specD, restD, e1, e2]
    rcases bestV_of (p := dayP ts ns (ns.length - 1 - j)) (c := fun s => stepS ts b s + restD ts ns j s) hcb (allN ts) with ⟨_, h2⟩ | ⟨h1, _⟩
    · have := chE_got (p := dayP ts ns (ns.length - 1 - j)) (c := fun s => stepS ts b s + restD ts ns j s) (fun i => (hcb i).2) (top_lt ts) (feas_at hf (h := ns.length - 1 - j) (by omega))
      have h3 := hcb (chE (dayP ts ns (ns.length - 1 - j)) (fun s => stepS ts b s + restD ts ns j s) (allN ts)).1
      rw [h2] at this
      omega
    · exact h1
/-- Where some hour of the last j can not be met, there is no day. -/
theorem specD_bad {j : Nat} (hv : blsB ts = true) (hj : j ≤ ns.length) (hb : ∃ h, ns.length - j ≤ h ∧ h < ns.length ∧ dayP ts ns h (2 ^ ts.length - 1) = false) : ∀ b, specD ts ns j b = -1 := by
  induction j with
  | zero => obtain ⟨h, h1, h2, _⟩ := hb; omega
  | succ j ih =>
    intro b
    rw [specD]
    apply bestV_none
    intro s hs
    by_cases e : dayP ts ns (ns.length - 1 - j) (2 ^ ts.length - 1) = false
    · have : dayP ts ns (ns.length - 1 - j) s = false := by
        cases hq : dayP ts ns (ns.length - 1 - j) s with
        | false => rfl
        | true =>
          have := pwB_top hv hq
          unfold dayP at e
          rw [this] at e
          cases e
      rw [this]; rfl
    · obtain ⟨h, h1, h2, h3⟩ := hb
      have hne : h ≠ ns.length - 1 - j := fun q => e (by rw [← q]; exact h3)
      have := ih (by omega) ⟨h, by omega, h2, h3⟩ s
      rw [this]
      simp
theorem feas_no (hf : feasB ts ns = false) : ∃ h, ns.length - ns.length ≤ h ∧ h < ns.length ∧ dayP ts ns h (2 ^ ts.length - 1) = false := by
  unfold feasB at hf
  rw [List.all_eq_false] at hf
  obtain ⟨x, hx, hp⟩ := hf
  obtain ⟨h, hh, rfl⟩ := List.getElem_of_mem hx
  exact ⟨h, by omega, hh, by unfold dayP; rw [getD_atI hh]; simpa using hp⟩
theorem specD_bd (hv : blsB ts = true) (h24 : ns.length ≤ 24) {j : Nat} (hj : j ≤ ns.length) (b : Nat) : -1 ≤ specD ts ns j b ∧ specD ts ns j b ≤ 2000000 := by
  have key : ∀ j, j ≤ ns.length → ∀ b, -1 ≤ specD ts ns j b ∧ specD ts ns j b ≤ 80000 * j := by
    intro j
    induction j with
    | zero => intro _ b; simp [specD]
    | succ j ih =>
      intro hj b
      rw [specD]
      have ihb := ih (by omega)
      have : ∀ i, -1 ≤ bestV (fun s => dayP ts ns (ns.length - 1 - j) s && decide (0 ≤ specD ts ns j s)) (fun s => stepS ts b s + specD ts ns j s) i ∧ bestV (fun s => dayP ts ns (ns.length - 1 - j) s && decide (0 ≤ specD ts ns j s)) (fun s => stepS ts b s + specD ts ns j s) i ≤ 80000 * (j + 1 : Nat) := by
        intro i
        induction i with
        | zero => simp only [bestV]; omega
        | succ i ihi =>
          rw [bestV]
          split
          · have h1 := ihb i
            have h2 := stepS_bd hv b i
            omega
          · exact ihi
      exact this _
  have := key j hj b
  omega
end Go.Proofs.Ytiilgeoahpnkpaa
