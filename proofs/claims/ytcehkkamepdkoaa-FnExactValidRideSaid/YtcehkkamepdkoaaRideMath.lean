/-
  Plain facts on rides: when one is valid, its speed in lowest terms, how many ticks it takes. Nothing of the program stands here.
-/
import Derived.Test.YtcehkkamepdkoaaBase
namespace Go.Proofs.Ytcehkkamepdkoaa
open Go.RowKit

abbrev R4 := Int × Int × Int × Int
def rideB (t : R4) : Bool := decide (1 ≤ t.1 ∧ t.1 ≤ 2000 ∧ 0 ≤ t.2.1 ∧ t.2.1 ≤ 500 ∧ 1 ≤ t.2.2.1 ∧ t.2.2.1 ≤ 100 ∧ 0 ≤ t.2.2.2 ∧ t.2.2.2 ≤ 40)
theorem rideB_parts {t : R4} (h : rideB t = true) : 1 ≤ t.1 ∧ t.1 ≤ 2000 ∧ 0 ≤ t.2.1 ∧ t.2.1 ≤ 500 ∧ 1 ≤ t.2.2.1 ∧ t.2.2.1 ≤ 100 ∧ 0 ≤ t.2.2.2 ∧ t.2.2.2 ≤ 40 := by
  unfold rideB at h
  simpa using h
/-- The greatest common divisor of two numbers that are not negative. -/
def gcdI (a b : Int) : Int := (Int.gcd a b : Int)
theorem gcdI_zero (a : Int) (h : 0 ≤ a) : gcdI a 0 = a := by unfold gcdI; simp [Int.gcd]; omega
theorem gcdI_step (a b : Int) (ha : 0 ≤ a) (hb : 0 < b) : gcdI b (a.tmod b) = gcdI a b := by
  unfold gcdI
  obtain ⟨m, rfl⟩ := Int.eq_ofNat_of_zero_le ha
  obtain ⟨n, rfl⟩ := Int.eq_ofNat_of_zero_le (Int.le_of_lt hb)
  rw [← Int.ofNat_tmod]
  simp only [Int.gcd, Int.natAbs_natCast]
  rw [Nat.gcd_comm m n, Nat.gcd_rec n m, Nat.gcd_comm]
theorem gcdI_pos (a b : Int) (hb : 0 < b) : 0 < gcdI a b := by
  unfold gcdI
  have : 0 < Int.gcd a b := Int.gcd_pos_of_ne_zero_right a (by omega)
  omega
/-- Rounded up quotients stay as they are where both sides are multiples. -/
theorem ceil_mul (g a n : Nat) (hg : 0 < g) (hn : 0 < n) : (g * a + g * n - 1) / (g * n) = (a + n - 1) / n := by
  have hr := Nat.mod_lt (a + n - 1) hn
  have hd := Nat.div_add_mod (a + n - 1) n
  generalize (a + n - 1) / n = q at hd ⊢
  generalize (a + n - 1) % n = r at hd hr
  have e : g * a + g * n - 1 = (g * n) * q + (g * (r + 1) - 1) := by
    have h1 : a + n = n * q + r + 1 := by omega
    have h2 : g * a + g * n = g * (n * q) + g * (r + 1) := by rw [← Nat.mul_add, h1, Nat.add_assoc, Nat.mul_add]
    have h3 : 0 < g * (r + 1) := Nat.mul_pos hg (by omega)
    rw [h2, Nat.mul_assoc]; omega
  have h4 : g * (r + 1) ≤ g * n := Nat.mul_le_mul_left g hr
  have h5 : 0 < g * (r + 1) := Nat.mul_pos hg (by omega)
  rw [e, Nat.mul_add_div (Nat.mul_pos hg hn), Nat.div_eq_of_lt (by omega), Nat.add_zero]
end Go.Proofs.Ytcehkkamepdkoaa
