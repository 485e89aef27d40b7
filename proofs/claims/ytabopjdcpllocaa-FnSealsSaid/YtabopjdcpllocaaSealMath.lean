/-
  Plain facts on seals: what the answers of the four questions have to do with one another.
-/
import Derived.Test.YtabopjdcpllocaaWorn
import Derived.Test.YtabopjdcpllocaaNextC
import Derived.Test.YtabopjdcpllocaaSendC
namespace Go.Proofs.Ytabopjdcpllocaa
open Go.RowKit

theorem runCar_few (ts : List TSeal) (k : Int) : (runCar ts k).1.length ≤ ts.length := by
  unfold runCar
  split
  · split
    · split
      · simp
      · simp
    · simp
  · simp
theorem wornOf_few (ts : List TSeal) : (wornOf ts).1.length ≤ ts.length := by
  unfold wornOf
  split
  · exact wornAt_len _ _
  · simp
theorem sendOf_few11 (l : List Int) (t : TMove) : (sendOf l t).1.length ≤ l.length := by
  unfold sendOf
  split
  · split
    · split
      · rw [movL_len]; exact Nat.le_refl _
      · simp
    · simp
  · simp
theorem cross_le {a b c d x y : Int} (hd : 0 < d) (hb : 0 ≤ b) (hy : 0 ≤ y) (h1 : c * y ≤ x * d) (h2 : a * d ≤ c * b) : a * y ≤ x * b := by
  have h3 : a * d * y ≤ c * b * y := Int.mul_le_mul_of_nonneg_right h2 hy
  have h4 : c * y * b ≤ x * d * b := Int.mul_le_mul_of_nonneg_right h1 hb
  have e1 : c * b * y = c * y * b := by rw [Int.mul_assoc, Int.mul_comm b y, ← Int.mul_assoc]
  have e2 : a * d * y = a * y * d := by rw [Int.mul_assoc, Int.mul_comm d y, ← Int.mul_assoc]
  have e3 : x * d * b = x * b * d := by rw [Int.mul_assoc, Int.mul_comm d b, ← Int.mul_assoc]
  rw [e1] at h3
  rw [e3] at h4
  rw [e2] at h3
  exact Int.le_of_mul_le_mul_right (Int.le_trans h3 h4) hd
theorem nextAt_none {ts : List TSeal} (k : Nat) (hk : k ≤ ts.length) (h : nextAt ts k = -1) (i : Nat) (hi : i < ts.length) (hik : i < k) : ¬ ts[i].1 < ts[i].2 := by
  induction k with
  | zero => omega
  | succ k ih =>
    have hka : k < ts.length := by omega
    have hbd := nextAt_bd ts k
    by_cases hw : ts[k].1 < ts[k].2
    · by_cases hneg : nextAt ts k = -1
      · rw [nextAt_first hka hw hneg] at h; omega
      · obtain ⟨m, hm⟩ : ∃ m : Nat, nextAt ts k = (m : Int) := ⟨(nextAt ts k).toNat, by omega⟩
        have hma : m < ts.length := by omega
        by_cases h3 : ts[k].1 * ts[m].2 < ts[m].1 * ts[k].2
        · rw [nextAt_less hka hma hw hm h3] at h; omega
        · rw [nextAt_not hka hma hm h3] at h; omega
    · rw [nextAt_worn hka hw] at h
      by_cases e : i = k
      · subst e; exact hw
      · exact ih (by omega) h (by omega)
/-- The carrier that should run next is worn least. -/
theorem nextAt_least {ts : List TSeal} (hv : slB ts = true) (k : Nat) (hk : k ≤ ts.length) (b : Nat) (h : nextAt ts k = (b : Int)) :
    ∃ hb : b < ts.length, ts[b].1 < ts[b].2 ∧ ∀ i (hi : i < ts.length), i < k → ts[i].1 < ts[i].2 → ts[b].1 * ts[i].2 ≤ ts[i].1 * ts[b].2 := by
  induction k generalizing b with
  | zero => simp [nextAt] at h
  | succ k ih =>
    have hka : k < ts.length := by omega
    have hat := slB_at hv k hka
    by_cases hw : ts[k].1 < ts[k].2
    · by_cases hneg : nextAt ts k = -1
      · have h1 := nextAt_first hka hw hneg
        rw [h1] at h
        obtain rfl : k = b := by omega
        refine ⟨hka, hw, fun i hi hik hwi => ?_⟩
        by_cases e : i = k
        · subst e; exact Int.le_refl _
        · exfalso
          have := nextAt_none k (by omega) hneg i hi (by omega)
          omega
      · have hbd := nextAt_bd ts k
        obtain ⟨m, hm⟩ : ∃ m : Nat, nextAt ts k = (m : Int) := ⟨(nextAt ts k).toNat, by omega⟩
        obtain ⟨hma, hmw, hall⟩ := ih (by omega) m hm
        have hmt := slB_at hv m hma
        by_cases h3 : ts[k].1 * ts[m].2 < ts[m].1 * ts[k].2
        · have h1 := nextAt_less hka hma hw hm h3
          rw [h1] at h
          obtain rfl : k = b := by omega
          refine ⟨hka, hw, fun i hi hik hwi => ?_⟩
          by_cases e : i = k
          · subst e; exact Int.le_refl _
          · have h4 := hall i hi (by omega) hwi
            have hit := slB_at hv i hi
            exact cross_le (by omega) (by omega) (by omega) h4 (by omega)
        · have h1 := nextAt_not hka hma hm h3
          rw [h1] at h
          obtain rfl : m = b := by omega
          refine ⟨hma, hmw, fun i hi hik hwi => ?_⟩
          by_cases e : i = k
          · subst e; omega
          · exact hall i hi (by omega) hwi
    · have h1 := nextAt_worn hka hw
      rw [h1] at h
      obtain ⟨hma, hmw, hall⟩ := ih (by omega) b h
      refine ⟨hma, hmw, fun i hi hik hwi => ?_⟩
      by_cases e : i = k
      · subst e; exact absurd hwi hw
      · exact hall i hi (by omega) hwi
/-- All are worn just if no runs are left. -/
theorem worn_all {ts : List TSeal} (hv : slB ts = true) (k : Nat) (hk : k ≤ ts.length) : (wornAt ts k).length = k ↔ runsAt ts k = 0 := by
  induction k with
  | zero => simp [wornAt, runsAt_zero]
  | succ k ih =>
    have hka : k < ts.length := by omega
    have hat := slB_at hv k hka
    have hb := runsAt_le hv k (by omega)
    have hl := wornAt_len ts k
    rw [runsAt_succ ts k hka]
    by_cases h : ts[k].1 = ts[k].2
    · rw [wornAt_hit hka h, List.length_append]
      have := ih (by omega)
      simp only [List.length_singleton]
      omega
    · rw [wornAt_miss hka h]
      omega
/-- A run uses up one run. -/
theorem runsAt_set {ts : List TSeal} {kn : Nat} (hk : kn < ts.length) (n : Nat) (hn : n ≤ ts.length) : runsAt (ts.set kn (ts[kn].1 + 1, ts[kn].2)) n = runsAt ts n - (if kn < n then 1 else 0) := by
  induction n with
  | zero => simp [runsAt_zero]
  | succ n ih =>
    rw [runsAt_succ _ n (by simp; omega), runsAt_succ ts n (by omega), ih (by omega), List.getElem_set]
    by_cases h : kn = n
    · subst h
      simp
      omega
    · rw [if_neg h]
      by_cases h2 : kn < n
      · rw [if_pos h2, if_pos (by omega)]; omega
      · rw [if_neg h2, if_neg (by omega)]; omega
theorem slB_set {ts : List TSeal} {kn : Nat} (hv : slB ts = true) (hk : kn < ts.length) (h : ¬ ts[kn].1 = ts[kn].2) : slB (ts.set kn (ts[kn].1 + 1, ts[kn].2)) = true := by
  have hat := slB_at hv kn hk
  unfold slB
  rw [Bool.and_eq_true]
  refine ⟨decide_eq_true (by rw [List.length_set]; exact slB_few hv), all_yes (fun j hj => ?_)⟩
  rw [List.getElem_set]
  have hj' : j < ts.length := by simpa using hj
  split
  · unfold seB
    rw [Bool.and_eq_true]
    exact ⟨inB_yes (by dsimp only; omega), inB_yes (by dsimp only; omega)⟩
  · have := slB_at hv j hj'
    unfold seB
    rw [Bool.and_eq_true]
    exact ⟨inB_yes (by omega), inB_yes (by omega)⟩
theorem runCar_left {ts rl : List TSeal} {k : Int} (h : runCar ts k = (rl, 0)) : slB ts = true ∧ runsLeft rl = ((runsLeft ts).1 - 1, 0) := by
  cases hv : slB ts with
  | false => rw [runCar_bad k hv] at h; injection h with _ h; exact absurd h (by decide)
  | true =>
    cases hk : inB k 0 ((ts.length : Int) - 1) with
    | false => rw [runCar_range hv hk] at h; injection h with _ h; exact absurd h (by decide)
    | true =>
      have hb := inB_of hk
      obtain ⟨kn, rfl⟩ : ∃ kn : Nat, k = kn := ⟨k.toNat, by omega⟩
      have hka : kn < ts.length := by omega
      by_cases h3 : ts[kn].1 = ts[kn].2
      · rw [runCar_worn hv hk hka h3] at h; injection h with _ h; exact absurd h (by decide)
      · rw [runCar_good hv hk hka h3] at h
        injection h with h _
        subst h
        refine ⟨rfl, ?_⟩
        rw [runsLeft_good (slB_set hv hka h3), runsLeft_good hv, List.length_set, runsAt_set hka _ (Nat.le_refl _), if_pos hka]
theorem runCar_valid {ts rl : List TSeal} {k : Int} (h : runCar ts k = (rl, 0)) : slB rl = true := by
  cases hv : slB ts with
  | false => rw [runCar_bad k hv] at h; injection h with _ h; exact absurd h (by decide)
  | true =>
    cases hk : inB k 0 ((ts.length : Int) - 1) with
    | false => rw [runCar_range hv hk] at h; injection h with _ h; exact absurd h (by decide)
    | true =>
      have hb := inB_of hk
      obtain ⟨kn, rfl⟩ : ∃ kn : Nat, k = kn := ⟨k.toNat, by omega⟩
      have hka : kn < ts.length := by omega
      by_cases h3 : ts[kn].1 = ts[kn].2
      · rw [runCar_worn hv hk hka h3] at h; injection h with _ h; exact absurd h (by decide)
      · rw [runCar_good hv hk hka h3] at h
        injection h with h _
        subst h
        exact slB_set hv hka h3
theorem nextOf_ok {ts : List TSeal} {x : Int} (h : nextOf ts = (x, 0)) : slB ts = true ∧ ∃ b : Nat, x = b ∧ nextAt ts ts.length = (b : Int) := by
  cases hv : slB ts with
  | false => rw [nextOf_bad hv] at h; injection h with _ h; exact absurd h (by decide)
  | true =>
    have hb := nextAt_bd ts ts.length
    by_cases hn : nextAt ts ts.length = -1
    · rw [nextOf_none hv rfl hn] at h; injection h with _ h; exact absurd h (by decide)
    · obtain ⟨m, hm⟩ : ∃ m : Nat, nextAt ts ts.length = (m : Int) := ⟨(nextAt ts ts.length).toNat, by omega⟩
      rw [nextOf_some hv rfl hm] at h
      injection h with h _
      exact ⟨rfl, m, h.symm, hm⟩
theorem left_ok {ts : List TSeal} {x : Int} (h : runsLeft ts = (x, 0)) : slB ts = true ∧ x = runsAt ts ts.length := by
  cases hv : slB ts with
  | false => rw [runsLeft_bad hv] at h; injection h with _ h; exact absurd h (by decide)
  | true => rw [runsLeft_good hv] at h; injection h with h _; exact ⟨rfl, h.symm⟩
theorem left_bd (ts : List TSeal) : 0 ≤ (runsLeft ts).1 ∧ (runsLeft ts).1 ≤ 60000 := by
  cases hv : slB ts with
  | false => rw [runsLeft_bad hv]; decide
  | true =>
    rw [runsLeft_good hv]
    have h1 := runsAt_le hv ts.length (Nat.le_refl _)
    have h2 := slB_few hv
    dsimp only
    omega
theorem seals_wf' {ts : List TSeal} (h : slB ts = true) : ∀ t ∈ ts, wfSeal t := by
  intro t ht
  obtain ⟨i, hi, rfl⟩ := List.getElem_of_mem ht
  have := slB_at h i hi
  exact ⟨by simp [Lit.wf, IntKind.min, IntKind.max, IntKind.signed, IntKind.bits]; omega, by simp [Lit.wf, IntKind.min, IntKind.max, IntKind.signed, IntKind.bits]; omega⟩
end Go.Proofs.Ytabopjdcpllocaa
