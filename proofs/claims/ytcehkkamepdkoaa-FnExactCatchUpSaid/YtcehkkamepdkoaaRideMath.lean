/-
  Plain facts on rides: when one is valid, its speed in lowest terms, how many ticks it takes. Nothing of the program stands here.
-/
import Derived.Test.YtcehkkamepdkoaaBase
namespace Go.Proofs.Ytcehkkamepdkoaa
open Go.RowKit

abbrev R4 := Int × Int × Int × Int
def rideB (t : R4) : Bool := decide (1 ≤ t.1 ∧ t.1 ≤ 2000 ∧ 0 ≤ t.2.1 ∧ t.2.1 ≤ 500 ∧ 1 ≤ t.2.2.1 ∧ t.2.2.1 ≤ 100 ∧ 0 ≤ t.2.2.2 ∧ t.2.2.2 ≤ 40)
theorem rideB_parts {t : R4} (h : rideB t = true) : 1 ≤ t.1 ∧ t.1 ≤ 2000 ∧ 0 ≤ t.2.1 ∧ t.2.1 ≤ 500 ∧ 1 ≤ t.2.2.1 ∧ t.2.2.1 ≤ 100 ∧ 0 ≤ t.2.2.2 ∧ t.2.2.2 ≤ 40 := by
  unfold rideB at h
  simpa using h
/-- The greatest common divisor of two numbers that are not negative. -/
def gcdI (a b : Int) : Int := (Int.gcd a b : Int)
theorem gcdI_zero (a : Int) (h : 0 ≤ a) : gcdI a 0 = a := by unfold gcdI; simp [Int.gcd]; omega
theorem gcdI_step (a b : Int) (ha : 0 ≤ a) (hb : 0 < b) : gcdI b (a % b) = gcdI a b := by
  unfold gcdI
  obtain ⟨m, rfl⟩ := Int.eq_ofNat_of_zero_le ha
  obtain ⟨n, rfl⟩ := Int.eq_ofNat_of_zero_le (Int.le_of_lt hb)
  rw [← Int.natCast_emod]
  simp only [Int.gcd, Int.natAbs_natCast]
  rw [Nat.gcd_comm m n, Nat.gcd_rec n m, Nat.gcd_comm]
theorem gcdI_pos (a b : Int) (hb : 0 < b) : 0 < gcdI a b := by
  unfold gcdI
  have : 0 < Int.gcd a b := Int.gcd_pos_of_ne_zero_right a (by omega)
  omega
theorem gcdI_dvd_left (a b : Int) : gcdI a b ∣ a := Int.gcd_dvd_left a b
theorem gcdI_dvd_right (a b : Int) : gcdI a b ∣ b := Int.gcd_dvd_right a b
/-- Rounded up quotients stay as they are where both sides are multiples. -/
theorem ceil_mul (g a n : Nat) (hg : 0 < g) (hn : 0 < n) : (g * a + g * n - 1) / (g * n) = (a + n - 1) / n := by
  have hr := Nat.mod_lt (a + n - 1) hn
  have hd := Nat.div_add_mod (a + n - 1) n
  generalize (a + n - 1) / n = q at hd ⊢
  generalize (a + n - 1) % n = r at hd hr
  have e : g * a + g * n - 1 = (g * n) * q + (g * (r + 1) - 1) := by
    have h1 : a + n = n * q + r + 1 := by omega
    have h2 : g * a + g * n = g * (n * q) + g * (r + 1) := by rw [← Nat.mul_add, h1, Nat.add_assoc, Nat.mul_add]
    have h3 : 0 < g * (r + 1) := Nat.mul_pos hg (by omega)
    rw [h2, Nat.mul_assoc]; omega
  have h4 : g * (r + 1) ≤ g * n := Nat.mul_le_mul_left g hr
  have h5 : 0 < g * (r + 1) := Nat.mul_pos hg (by omega)
  rw [e, Nat.mul_add_div (Nat.mul_pos hg hn), Nat.div_eq_of_lt (by omega), Nat.add_zero]
theorem le_mul1 {a b : Int} (hb : 0 ≤ b) (ha : 1 ≤ a) : b ≤ a * b := by
  have h := Int.mul_le_mul_of_nonneg_right ha hb
  rwa [Int.one_mul] at h
def numR (t : R4) : Int := 100 * t.2.2.1
def denR (t : R4) : Int := 100 + t.2.1 + 10 * t.2.2.2
def spR (t : R4) : Int × Int := (numR t / gcdI (numR t) (denR t), denR t / gcdI (numR t) (denR t))
def ticksR (t : R4) : Int := (t.1 * denR t + numR t - 1) / numR t
theorem ride_bounds {t : R4} (h : rideB t = true) : 100 ≤ numR t ∧ numR t ≤ 10000 ∧ 100 ≤ denR t ∧ denR t ≤ 1000 := by
  have := rideB_parts h
  unfold numR denR
  omega
theorem sp_bounds {t : R4} (h : rideB t = true) : 1 ≤ (spR t).1 ∧ (spR t).1 ≤ 10000 ∧ 1 ≤ (spR t).2 ∧ (spR t).2 ≤ 1000 := by
  obtain ⟨h1, h2, h3, h4⟩ := ride_bounds h
  have hg := gcdI_pos (numR t) (denR t) (by omega)
  obtain ⟨p, hp⟩ := gcdI_dvd_left (numR t) (denR t)
  obtain ⟨q, hq⟩ := gcdI_dvd_right (numR t) (denR t)
  have e1 : (spR t).1 = p := by unfold spR; simp only; conv => { lhs; lhs; rw [hp] }; exact Int.mul_ediv_cancel_left _ (by omega)
  have e2 : (spR t).2 = q := by unfold spR; simp only; conv => { lhs; lhs; rw [hq] }; exact Int.mul_ediv_cancel_left _ (by omega)
  rw [e1, e2]
  generalize gcdI (numR t) (denR t) = g at *
  have p0 : 0 < p := Int.pos_of_mul_pos_right (by rw [← hp]; omega) hg
  have q0 : 0 < q := Int.pos_of_mul_pos_right (by rw [← hq]; omega) hg
  have p1 : p ≤ g * p := le_mul1 (by omega) (by omega)
  have q1 : q ≤ g * q := le_mul1 (by omega) (by omega)
  omega
theorem mul_le_of {a b A B : Int} (ha : 0 ≤ a) (hb : 0 ≤ b) (hA : a ≤ A) (hB : b ≤ B) : 0 ≤ a * b ∧ a * b ≤ A * B :=
  ⟨Int.mul_nonneg ha hb, Int.mul_le_mul hA hB hb (by omega)⟩
/-- The ticks come out alike from the speed in lowest terms. -/
theorem ticks_low {t : R4} (h : rideB t = true) : (t.1 * (spR t).2 + (spR t).1 - 1) / (spR t).1 = ticksR t := by
  obtain ⟨h1, h2, h3, h4⟩ := ride_bounds h
  have hl := rideB_parts h
  have hg := gcdI_pos (numR t) (denR t) (by omega)
  obtain ⟨p, hp⟩ := gcdI_dvd_left (numR t) (denR t)
  obtain ⟨q, hq⟩ := gcdI_dvd_right (numR t) (denR t)
  have e1 : (spR t).1 = p := by unfold spR; simp only; conv => { lhs; lhs; rw [hp] }; exact Int.mul_ediv_cancel_left _ (by omega)
  have e2 : (spR t).2 = q := by unfold spR; simp only; conv => { lhs; lhs; rw [hq] }; exact Int.mul_ediv_cancel_left _ (by omega)
  unfold ticksR
  rw [e1, e2]
  generalize hgg : gcdI (numR t) (denR t) = g at *
  rw [hp, hq]
  have p0 : 0 < p := Int.pos_of_mul_pos_right (by rw [← hp]; omega) hg
  have q0 : 0 < q := Int.pos_of_mul_pos_right (by rw [← hq]; omega) hg
  generalize t.1 = l at *
  obtain ⟨G, rfl⟩ := Int.eq_ofNat_of_zero_le (Int.le_of_lt hg)
  obtain ⟨P, rfl⟩ := Int.eq_ofNat_of_zero_le (Int.le_of_lt p0)
  obtain ⟨Q, rfl⟩ := Int.eq_ofNat_of_zero_le (Int.le_of_lt q0)
  obtain ⟨L, rfl⟩ := Int.eq_ofNat_of_zero_le (show 0 ≤ l by omega)
  have hc := ceil_mul G (L * Q) P (by omega) (by omega)
  have n1 : 1 ≤ G * (L * Q) + G * P := by have : 0 < G * P := Nat.mul_pos (by omega) (by omega); omega
  have n2 : 1 ≤ L * Q + P := by omega
  have i1 : ((L : Int) * ((G : Int) * (Q : Int)) + (G : Int) * (P : Int) - 1) = ((G * (L * Q) + G * P - 1 : Nat) : Int) := by
    rw [Int.ofNat_sub n1]; push_cast; rw [Int.mul_left_comm]
  have i2 : ((L : Int) * (Q : Int) + (P : Int) - 1) = ((L * Q + P - 1 : Nat) : Int) := by
    rw [Int.ofNat_sub n2]; push_cast; rfl
  rw [i1, i2, ← Int.natCast_mul, ← Int.natCast_ediv, ← Int.natCast_ediv, hc]
theorem ticks_bounds {t : R4} (h : rideB t = true) : 1 ≤ ticksR t ∧ ticksR t ≤ 2000000 := by
  obtain ⟨h1, h2, h3, h4⟩ := ride_bounds h
  have hl := rideB_parts h
  have hm := mul_le_of (a := t.1) (b := denR t) (A := 2000) (B := 1000) (by omega) (by omega) (by omega) (by omega)
  have hm1 : denR t ≤ t.1 * denR t := le_mul1 (by omega) (by omega)
  unfold ticksR
  constructor
  · exact (Int.le_ediv_iff_mul_le (by omega)).2 (by omega)
  · refine Int.ediv_le_of_le_mul (by omega) ?_
    have : 2000000 + numR t ≤ 2000000 * numR t := by omega
    omega
/-- The code of rides that should be valid. -/
def codeR (ts : List R4) : Int := if ts.all rideB then 0 else 1
theorem codeR_bad (ts : List R4) (k : Nat) (hk : k < ts.length) (h : rideB ts[k] = false) : codeR ts = 1 := by
  unfold codeR
  have : ts.all rideB = false := by
    rw [List.all_eq_false]
    exact ⟨ts[k], List.getElem_mem hk, by simp [h]⟩
  rw [this]; rfl
theorem codeR_good (ts : List R4) (h : ∀ k (hk : k < ts.length), rideB ts[k] = true) : codeR ts = 0 := by
  unfold codeR
  have : ts.all rideB = true := by
    rw [List.all_eq_true]
    intro c hc
    obtain ⟨k, hk, rfl⟩ := List.getElem_of_mem hc
    exact h k hk
  rw [this]; rfl
end Go.Proofs.Ytcehkkamepdkoaa
