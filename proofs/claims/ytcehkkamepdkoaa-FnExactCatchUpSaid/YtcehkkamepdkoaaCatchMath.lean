/-
  The walks of minus and CatchUp, the model's and the program's.
-/
import Derived.Test.YtcehkkamepdkoaaPressFor
namespace Go.Proofs.Ytcehkkamepdkoaa
open Go.RowKit

theorem low_parts (a b : Int) (ha : 0 ≤ a) (hb : 0 < b) : ∃ g, 0 < g ∧ a = g * (lowI a b).1 ∧ b = g * (lowI a b).2 ∧ 0 ≤ (lowI a b).1 ∧ (lowI a b).1 ≤ a ∧ 1 ≤ (lowI a b).2 ∧ (lowI a b).2 ≤ b ∧ (0 < a → 1 ≤ (lowI a b).1) := by
  have hg := gcdI_pos a b hb
  obtain ⟨p, hp⟩ := gcdI_dvd_left a b
  obtain ⟨q, hq⟩ := gcdI_dvd_right a b
  have e1 : (lowI a b).1 = p := by unfold lowI; simp only; conv => { lhs; lhs; rw [hp] }; exact Int.mul_ediv_cancel_left _ (by omega)
  have e2 : (lowI a b).2 = q := by unfold lowI; simp only; conv => { lhs; lhs; rw [hq] }; exact Int.mul_ediv_cancel_left _ (by omega)
  rw [e1, e2]
  generalize gcdI a b = g at *
  have q0 : 0 < q := Int.pos_of_mul_pos_right (by rw [← hq]; omega) hg
  have p0 : 0 ≤ p := by
    rcases Int.lt_or_le p 0 with h | h
    · have := Int.mul_neg_of_pos_of_neg hg h
      omega
    · exact h
  have p1 := le_mul1 (a := g) (b := p) p0 (by omega)
  have q1 := le_mul1 (a := g) (b := q) (by omega) (by omega)
  refine ⟨g, hg, hp, hq, p0, by omega, by omega, by omega, fun h => ?_⟩
  rcases Int.lt_or_le 0 p with h2 | h2
  · omega
  · have : p = 0 := by omega
    subst this
    omega
theorem sp_low (t : R4) : spR t = lowI (numR t) (denR t) := rfl
theorem low_idem {t : R4} (h : rideB t = true) : lowI (spR t).1 (spR t).2 = spR t := by
  obtain ⟨g, hg, e1, e2⟩ := sp_parts h
  have := low_scale g (spR t).1 (spR t).2 hg
  rw [← e1, ← e2] at this
  exact this.symm
theorem sp_same {a b : R4} (ha : rideB a = true) (hb : rideB b = true) (h : (spR a).1 * (spR b).2 = (spR b).1 * (spR a).2) : spR a = spR b := by
  obtain ⟨a1, a2, a3, a4⟩ := sp_bounds ha
  obtain ⟨b1, b2, b3, b4⟩ := sp_bounds hb
  have e1 := low_scale (spR b).2 (spR a).1 (spR a).2 (by omega)
  have e2 := low_scale (spR a).2 (spR b).1 (spR b).2 (by omega)
  rw [low_idem ha] at e1
  rw [low_idem hb] at e2
  refine e1.symm.trans (Eq.trans ?_ e2)
  rw [Int.mul_comm (spR b).2 (spR a).1, h, Int.mul_comm (spR b).1 (spR a).2, Int.mul_comm (spR b).2 (spR a).2]
theorem le_scale {c a b : Int} (hc : 0 < c) : c * a ≤ c * b ↔ a ≤ b :=
  ⟨fun h => Int.le_of_mul_le_mul_left h hc, fun h => Int.mul_le_mul_of_nonneg_left h (by omega)⟩
/-- The second one has come at least as far at tick k. -/
def cuQ (a b : R4) (x : Int) (k : Nat) : Bool := decide ((k : Int) * numR a * denR b ≤ ((k : Int) - x) * numR b * denR a)
theorem cuQ_low {a b : R4} (ha : rideB a = true) (hb : rideB b = true) (x : Int) (k : Nat) : cuQ a b x k = decide (x * ((spR a).1 * (spR b).2) ≤ ((k : Int) - x) * ((spR b).1 * (spR a).2 - (spR a).1 * (spR b).2)) := by
  obtain ⟨g, hg, e1, e2⟩ := sp_parts ha
  obtain ⟨h, hh, e3, e4⟩ := sp_parts hb
  unfold cuQ
  rw [e1, e2, e3, e4]
  generalize (spR a).1 = p, (spR a).2 = q, (spR b).1 = r, (spR b).2 = s
  refine decide_eq_decide.2 ?_
  have i1 : (k : Int) * (g * p) * (h * s) = (g * h) * ((k : Int) * (p * s)) := by
    simp only [Int.mul_assoc, Int.mul_left_comm, Int.mul_comm]
  have i2 : ((k : Int) - x) * (h * r) * (g * q) = (g * h) * (((k : Int) - x) * (r * q)) := by
    generalize (k : Int) - x = u
    simp only [Int.mul_left_comm, Int.mul_comm]
  rw [i1, i2, le_scale (Int.mul_pos hg hh)]
  generalize p * s = S
  generalize r * q = F
  rw [Int.mul_sub, Int.sub_mul (k : Int) x S]
  omega
/-- How many ticks are lost until then: the program's reckoning. -/
def cuU (a b : R4) (x : Int) : Int :=
  (fun (m n : Int × Int) => (n.1 * m.2 + n.2 * m.1 - 1) / (n.2 * m.1)) (lowI ((spR b).1 * (spR a).2 - (spR a).1 * (spR b).2) ((spR b).2 * (spR a).2)) (lowI ((spR a).1 * x) (spR a).2)
theorem cuU_is {a b : R4} (ha : rideB a = true) (hb : rideB b = true) {x : Int} (hx : 0 ≤ x) (hf : (spR a).1 * (spR b).2 < (spR b).1 * (spR a).2) (u : Int) : cuU a b x ≤ u ↔ x * ((spR a).1 * (spR b).2) ≤ u * ((spR b).1 * (spR a).2 - (spR a).1 * (spR b).2) := by
  obtain ⟨a1, a2, a3, a4⟩ := sp_bounds ha
  obtain ⟨b1, b2, b3, b4⟩ := sp_bounds hb
  unfold cuU
  generalize (spR a).1 = p at *
  generalize (spR a).2 = q at *
  generalize (spR b).1 = r at *
  generalize (spR b).2 = s at *
  obtain ⟨g, hg, e1, e2, m1, m2, m3, m4, m5⟩ := low_parts (r * q - p * s) (s * q) (by omega) (Int.mul_pos (by omega) (by omega))
  obtain ⟨h, hh, e3, e4, n1, n2, n3, n4, n5⟩ := low_parts (p * x) q (Int.mul_nonneg (by omega) hx) (by omega)
  have hm := m5 (by omega)
  generalize lowI (r * q - p * s) (s * q) = m at *
  generalize lowI (p * x) q = n at *
  obtain ⟨c, d⟩ := m
  obtain ⟨i, j⟩ := n
  simp only at *
  have hB : 0 < j * c := Int.mul_pos (by omega) (by omega)
  have h1 : (i * d + j * c - 1) / (j * c) ≤ u ↔ i * d ≤ u * (j * c) := by
    generalize j * c = B at *
    generalize i * d = A
    have h2 : (A + B - 1) / B ≤ u ↔ (A + B - 1) / B < u + 1 := by omega
    rw [h2, Int.ediv_lt_iff_lt_mul hB, Int.add_mul, Int.one_mul]
    omega
  rw [h1, ← le_scale (c := h * g) (Int.mul_pos hh hg)]
  have i1 : h * g * (i * d) = (h * i) * (g * d) := by simp only [Int.mul_left_comm, Int.mul_comm]
  have i2 : h * g * (u * (j * c)) = u * ((h * j) * (g * c)) := by simp only [Int.mul_left_comm, Int.mul_comm]
  rw [i1, i2, ← e3, ← e2, ← e4, ← e1]
  have i3 : p * x * (s * q) = q * (x * (p * s)) := by simp only [Int.mul_left_comm, Int.mul_comm]
  have i4 : u * (q * (r * q - p * s)) = q * (u * (r * q - p * s)) := Int.mul_left_comm _ _ _
  rw [i3, i4, le_scale (by omega)]
def cuC (a b : R4) (x : Int) : Nat := firstN (cuQ a b x) x.toNat (ticksR a - x).toNat
def cuA (a b : R4) (x : Int) : Int × Int :=
  if rangeC (okC (rideB a && rideB b)) x 10000 = 0 then (if a.1 = b.1 then (if ticksR a ≤ (cuC a b x : Int) then (0, 3) else ((cuC a b x : Nat), 0)) else (0, 8)) else (0, rangeC (okC (rideB a && rideB b)) x 10000)
def cuV (a b : R4) (x : Int) : Value := .tuple #[.int .i64 (cuA a b x).1, .int .i64 (cuA a b x).2]
theorem cuA_code {a b : R4} {x c : Int} (h : rangeC (okC (rideB a && rideB b)) x 10000 = c) (hc : ¬ c = 0) : cuA a b x = (0, c) := by unfold cuA; rw [h, if_neg hc]
theorem cuA_form {a b : R4} {x : Int} (h : rangeC (okC (rideB a && rideB b)) x 10000 = 0) (hl : ¬ a.1 = b.1) : cuA a b x = (0, 8) := by unfold cuA; rw [if_pos h, if_neg hl]
theorem cuA_none {a b : R4} {x : Int} (h : rangeC (okC (rideB a && rideB b)) x 10000 = 0) (hl : a.1 = b.1) (hc : ticksR a ≤ (cuC a b x : Int)) : cuA a b x = (0, 3) := by unfold cuA; rw [if_pos h, if_pos hl, if_pos hc]
theorem cuA_some {a b : R4} {x : Int} {k : Nat} (h : rangeC (okC (rideB a && rideB b)) x 10000 = 0) (hl : a.1 = b.1) (hk : cuC a b x = k) (hc : ¬ ticksR a ≤ (k : Int)) : cuA a b x = ((k : Int), 0) := by unfold cuA; rw [if_pos h, if_pos hl, hk, if_neg hc]
/-- A first tick within the ride. -/
theorem cuC_at {a b : R4} {x : Int} (hx : 0 ≤ x) (k : Nat) (h1 : x ≤ (k : Int)) (h2 : (k : Int) < ticksR a) (h3 : ∀ s : Nat, x ≤ (s : Int) → s < k → cuQ a b x s = false) (h4 : cuQ a b x k = true) : cuC a b x = k :=
  firstN_is _ k _ _ (by omega) (by omega) (fun s hs hk => h3 s (by omega) hk) (fun _ => h4)
/-- None within the ride. -/
theorem cuC_no {a b : R4} {x : Int} (hx : 0 ≤ x) (h3 : ∀ s : Nat, x ≤ (s : Int) → (s : Int) < ticksR a → cuQ a b x s = false) : ticksR a ≤ (cuC a b x : Int) := by
  have : cuC a b x = x.toNat + (ticksR a - x).toNat := firstN_is _ _ _ _ (by omega) (by omega) (fun s hs hk => h3 s (by omega) (by omega)) (fun h => absurd h (by omega))
  rw [this]; omega
theorem cu_zero {a b : R4} (ha : rideB a = true) : cuC a b 0 = 0 := by
  have hb := ticks_bounds ha
  exact cuC_at (by omega) 0 (by omega) (by omega) (fun s _ h => absurd h (by omega)) (by unfold cuQ; simp)
theorem cu_slow {a b : R4} (ha : rideB a = true) (hb : rideB b = true) {x : Int} (hx : 0 < x) (h : (spR b).1 * (spR a).2 ≤ (spR a).1 * (spR b).2) : ticksR a ≤ (cuC a b x : Int) := by
  obtain ⟨a1, a2, a3, a4⟩ := sp_bounds ha
  obtain ⟨b1, b2, b3, b4⟩ := sp_bounds hb
  refine cuC_no (by omega) fun s hs _ => ?_
  rw [cuQ_low ha hb]
  refine decide_eq_false fun hq => ?_
  have p1 : 0 < x * ((spR a).1 * (spR b).2) := Int.mul_pos hx (Int.mul_pos (by omega) (by omega))
  have p2 : ((s : Int) - x) * ((spR b).1 * (spR a).2 - (spR a).1 * (spR b).2) ≤ 0 := Int.mul_nonpos_of_nonneg_of_nonpos (by omega) (by omega)
  omega
theorem cu_fast {a b : R4} (ha : rideB a = true) (hb : rideB b = true) {x : Int} (hx : 0 ≤ x) (hf : (spR a).1 * (spR b).2 < (spR b).1 * (spR a).2) : (ticksR a ≤ x + cuU a b x → ticksR a ≤ (cuC a b x : Int)) ∧ (x + cuU a b x < ticksR a → cuC a b x = (x + cuU a b x).toNat) ∧ 0 ≤ cuU a b x := by
  have hU := cuU_is ha hb hx hf
  have h0 : 0 ≤ cuU a b x := by
    rcases Int.lt_or_le (cuU a b x) 0 with h | h
    · have h1 := (hU (-1)).1 (by omega)
      obtain ⟨a1, a2, a3, a4⟩ := sp_bounds ha
      obtain ⟨b1, b2, b3, b4⟩ := sp_bounds hb
      have p1 : 0 ≤ x * ((spR a).1 * (spR b).2) := Int.mul_nonneg hx (Int.mul_nonneg (by omega) (by omega))
      omega
    · exact h
  have hq : ∀ s : Nat, cuQ a b x s = decide (cuU a b x ≤ (s : Int) - x) := fun s => by
    rw [cuQ_low ha hb]
    exact decide_eq_decide.2 (hU _).symm
  refine ⟨fun h => cuC_no hx fun s _ hs => ?_, fun h => cuC_at hx _ (by omega) (by omega) (fun s _ hs => ?_) ?_, h0⟩
  · rw [hq]; exact decide_eq_false (by omega)
  · rw [hq]; exact decide_eq_false (by omega)
  · rw [hq]; exact decide_eq_true (by omega)
end Go.Proofs.Ytcehkkamepdkoaa
