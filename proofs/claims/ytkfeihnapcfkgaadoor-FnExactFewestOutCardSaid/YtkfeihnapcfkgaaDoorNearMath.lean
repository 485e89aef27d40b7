/-
  Sets of numbers below 40 as bits of a number: their first one, how many they are (as the library counts bits), walks over a list for the least.
-/
import Derived.Test.YtkfeihnapcfkgaaDoorBase
import Derived.Lib.TrailingZeros
namespace Go.Proofs.YtkfeihnapcfkgaaDoor
open Go
def setN (p : Nat → Bool) : Nat → Nat
  | 0 => 0
  | k + 1 => setN p k + (if p k then 2 ^ k else 0)
theorem setN_lt (p : Nat → Bool) : ∀ k, setN p k < 2 ^ k
  | 0 => by simp [setN]
  | k + 1 => by
    have := setN_lt p k
    simp only [setN, Nat.pow_succ]
    split <;> omega
theorem setN_lt64 (p : Nat → Bool) {k : Nat} (h : k ≤ 40) : setN p k < 1099511627776 :=
  Nat.lt_of_lt_of_le (setN_lt p k) (Nat.le_trans (Nat.pow_le_pow_right (by decide) h) (by decide))
theorem or_pow {x k : Nat} (h : x < 2 ^ k) : x ||| 2 ^ k = x + 2 ^ k := by
  have := Nat.two_pow_add_eq_or_of_lt h 1
  rw [Nat.mul_one] at this
  rw [Nat.or_comm, ← this, Nat.add_comm]
theorem setN_or (p : Nat → Bool) (k : Nat) : setN p k ||| 2 ^ k = setN p k + 2 ^ k := or_pow (setN_lt p k)
theorem setN_bit (p : Nat → Bool) (i : Nat) : ∀ n, (setN p n).testBit i = (decide (i < n) && p i)
  | 0 => by simp [setN]
  | n + 1 => by
    have ih := setN_bit p i n
    simp only [setN]
    by_cases hp : p n = true
    · rw [if_pos hp, ← setN_or, Nat.testBit_or, ih, Nat.testBit_two_pow]
      by_cases e : n = i
      · subst e; simp [hp]
      · have : (decide (i < n + 1)) = decide (i < n) := by simp; omega
        simp [e, this]
    · rw [if_neg hp, Nat.add_zero, ih]
      by_cases e : n = i
      · subst e; simp [Bool.eq_false_iff.2 hp]
      · have : (decide (i < n + 1)) = decide (i < n) := by simp; omega
        rw [this]
theorem setN_ext {p q : Nat → Bool} {n m : Nat} (h : ∀ i, (decide (i < n) && p i) = (decide (i < m) && q i)) : setN p n = setN q m :=
  Nat.eq_of_testBit_eq fun i => by rw [setN_bit, setN_bit, h]
theorem setN_congr {p q : Nat → Bool} {n : Nat} (h : ∀ i, i < n → p i = q i) : setN p n = setN q n :=
  setN_ext fun i => by by_cases hi : i < n <;> simp [hi, h]
theorem setN_zero {p : Nat → Bool} {n : Nat} : setN p n = 0 ↔ ∀ i, i < n → p i = false := by
  constructor
  · intro h i hi
    have := setN_bit p i n
    rw [h] at this
    simpa [hi] using this.symm
  · intro h
    refine Nat.eq_of_testBit_eq fun i => ?_
    rw [setN_bit]
    by_cases hi : i < n <;> simp [hi, h]
theorem setN_union (p q : Nat → Bool) (n : Nat) : setN p n ||| setN q n = setN (fun i => p i || q i) n :=
  Nat.eq_of_testBit_eq fun i => by rw [Nat.testBit_or, setN_bit, setN_bit, setN_bit, Bool.and_or_distrib_left]
theorem setN_without (p : Nat → Bool) (n j y : Nat) (hy : ∀ i, y.testBit i = (decide (i < 64) && !decide (i = j))) (hn : n ≤ 64) : setN p n &&& y = setN (fun i => p i && !decide (i = j)) n :=
  Nat.eq_of_testBit_eq fun i => by
    rw [Nat.testBit_and, setN_bit, setN_bit, hy]
    by_cases hi : i < n
    · have : i < 64 := by omega
      simp [hi, this]
    · simp [hi]
theorem not_pow {j : Nat} (hj : j < 64) : ∀ i, (2 ^ 64 - 1 - 2 ^ j).testBit i = (decide (i < 64) && !decide (i = j)) := by
  intro i
  have h2 : 2 ^ j < 2 ^ 64 := Nat.pow_lt_pow_right (by decide) hj
  have := Nat.testBit_two_pow_sub_succ h2 i
  rw [show 2 ^ 64 - (2 ^ j + 1) = 2 ^ 64 - 1 - 2 ^ j by omega] at this
  rw [this, Nat.testBit_two_pow]
  by_cases e : i = j
  · subst e; simp
  · have : ¬ j = i := fun h => e h.symm
    simp [e, this]
theorem ctz_bit {x : Nat} (h0 : x ≠ 0) (h : x < 2 ^ 64) : x.testBit (Lib.ctz 64 x) = true ∧ Lib.ctz 64 x < 64 ∧ ∀ i, i < Lib.ctz 64 x → x.testBit i = false := by
  unfold Lib.ctz
  rw [if_neg h0]
  obtain ⟨m, hm, hc⟩ := Lib.ctzFrom_spec 64 x (by omega) h
  generalize Lib.ctzFrom 64 x = c at hm hc
  have hb : ∀ i, x.testBit i = (decide (c ≤ i) && (2 * m + 1).testBit (i - c)) := fun i => by
    rw [hm, Nat.mul_comm, Nat.testBit_mul_two_pow]
  refine ⟨by rw [hb]; simp, hc, fun i hi => by rw [hb]; simp; omega⟩
theorem ctz_setN {p : Nat → Bool} {n k : Nat} (hn : n ≤ 40) (hk : k < n) (pk : p k = true) (hb : ∀ i, i < k → p i = false) : Lib.ctz 64 (setN p n) = k := by
  have hlt : setN p n < 2 ^ 64 := Nat.lt_trans (setN_lt64 p hn) (by decide)
  have h0 : setN p n ≠ 0 := fun h => by
    have := setN_zero.1 h k hk
    rw [pk] at this; cases this
  obtain ⟨h1, _, h3⟩ := ctz_bit h0 hlt
  rw [setN_bit] at h1
  generalize Lib.ctz 64 (setN p n) = c at h1 h3
  have hc : p c = true := by simp at h1; exact h1.2
  rcases Nat.lt_trichotomy c k with h | h | h
  · rw [hb c h] at hc; cases hc
  · exact h
  · have := h3 k h
    rw [setN_bit] at this
    simp [hk, pk] at this
theorem ctz_first {p : Nat → Bool} {n : Nat} (hn : n ≤ 40) (h0 : setN p n ≠ 0) : Lib.ctz 64 (setN p n) < n ∧ p (Lib.ctz 64 (setN p n)) = true ∧ ∀ i, i < Lib.ctz 64 (setN p n) → p i = false := by
  have hlt : setN p n < 2 ^ 64 := Nat.lt_trans (setN_lt64 p hn) (by decide)
  obtain ⟨h1, _, h3⟩ := ctz_bit h0 hlt
  rw [setN_bit] at h1
  simp only [Bool.and_eq_true, decide_eq_true_eq] at h1
  refine ⟨h1.1, h1.2, fun i hi => ?_⟩
  have := h3 i hi
  rw [setN_bit] at this
  have hi' : i < n := Nat.lt_trans hi h1.1
  simpa [hi'] using this
def popA : Nat → Nat → Nat
  | 0, _ => 0
  | f + 1, x => x % 2 + popA f (x / 2)
theorem popA_zero : ∀ f, popA f 0 = 0
  | 0 => rfl
  | f + 1 => by simp [popA, popA_zero f]
theorem popA_top : ∀ (f k x : Nat), x < 2 ^ k → k < f → popA f (x + 2 ^ k) = popA f x + 1
  | 0, k, x, _, h => by omega
  | f + 1, 0, x, h, _ => by
    have : x = 0 := by simp at h; exact h
    subst this
    simp [popA, popA_zero]
  | f + 1, k + 1, x, h, hk => by
    rw [Nat.pow_succ] at h ⊢
    have e1 : (x + 2 ^ k * 2) % 2 = x % 2 := by omega
    have e2 : (x + 2 ^ k * 2) / 2 = x / 2 + 2 ^ k := by omega
    simp only [popA, e1, e2]
    rw [popA_top f k (x / 2) (by omega) (by omega)]
    omega
theorem popA_byte (f x : Nat) : popA (8 + f) x = popA 8 (x % 256) + popA f (x / 256) := by
  have e : x / 2 / 2 / 2 / 2 / 2 / 2 / 2 / 2 = x / 256 := by omega
  rw [Nat.add_comm 8 f]
  simp only [popA, e]
  omega
theorem and_split (a b c d : Nat) (hb : b < 256) (hd : d < 256) : (256 * a + b) &&& (256 * c + d) = 256 * (a &&& c) + (b &&& d) := by
  have h1 : ((256 * a + b) &&& (256 * c + d)) / 2 ^ 8 = (256 * a + b) / 2 ^ 8 &&& (256 * c + d) / 2 ^ 8 := Nat.and_div_two_pow ..
  have h2 : ((256 * a + b) &&& (256 * c + d)) % 2 ^ 8 = (256 * a + b) % 2 ^ 8 &&& (256 * c + d) % 2 ^ 8 := Nat.and_mod_two_pow ..
  rw [show (256 * a + b) / 2 ^ 8 = a by omega, show (256 * c + d) / 2 ^ 8 = c by omega] at h1
  rw [show (256 * a + b) % 2 ^ 8 = b by omega, show (256 * c + d) % 2 ^ 8 = d by omega] at h2
  omega
def popM (d : Nat) : Nat → Nat
  | 0 => 0
  | k + 1 => 256 * popM d k + d
def popS1 (m x : Nat) : Nat := ((x / 2) &&& m) + (x &&& m)
def popS2 (m x : Nat) : Nat := ((x / 4) &&& m) + (x &&& m)
def popS3 (m x : Nat) : Nat := (x / 16 + x) &&& m
theorem t1c : ∀ r : Fin 256, ((r.val + 256) / 2) &&& 0x55 = (r.val / 2) &&& 0x55 := by decide +kernel
theorem t2c : ∀ r : Fin 256, ∀ e : Fin 4, ((r.val + 256 * e.val) / 4) &&& 0x33 = (r.val / 4) &&& 0x33 := by decide +kernel
theorem popS1_step (m q r : Nat) (hr : r < 256) : popS1 (256 * m + 0x55) (256 * q + r) = 256 * popS1 m q + popS1 0x55 r := by
  unfold popS1
  have e : (256 * q + r) / 2 = 256 * (q / 2) + (r + 256 * (q % 2)) / 2 := by omega
  rw [e, and_split _ _ _ _ (by omega) (by omega), and_split _ _ _ _ hr (by omega)]
  have : ((r + 256 * (q % 2)) / 2) &&& 0x55 = (r / 2) &&& 0x55 := by
    rcases Nat.mod_two_eq_zero_or_one q with h | h <;> rw [h]
    · simp
    · exact t1c ⟨r, hr⟩
  rw [this]; omega
theorem popS2_step (m q r : Nat) (hr : r < 256) : popS2 (256 * m + 0x33) (256 * q + r) = 256 * popS2 m q + popS2 0x33 r := by
  unfold popS2
  have e : (256 * q + r) / 4 = 256 * (q / 4) + (r + 256 * (q % 4)) / 4 := by omega
  rw [e, and_split _ _ _ _ (by omega) (by omega), and_split _ _ _ _ hr (by omega)]
  have : ((r + 256 * (q % 4)) / 4) &&& 0x33 = (r / 4) &&& 0x33 := t2c ⟨r, hr⟩ ⟨q % 4, by omega⟩
  rw [this]; omega
theorem popS3_step (m q r : Nat) (hr : r ≤ 68) (hq : q % 16 ≤ 4) : popS3 (256 * m + 0x0f) (256 * q + r) = 256 * popS3 m q + popS3 0x0f r := by
  unfold popS3
  have e : (256 * q + r) / 16 + (256 * q + r) = 256 * (q / 16 + q) + ((r + 256 * (q % 16)) / 16 + r) := by omega
  rw [e, and_split _ _ _ _ (by omega) (by omega)]
  have : ((r + 256 * (q % 16)) / 16 + r) &&& 0x0f = (r / 16 + r) &&& 0x0f := by
    have h1 := Nat.and_two_pow_sub_one_eq_mod ((r + 256 * (q % 16)) / 16 + r) 4
    have h2 := Nat.and_two_pow_sub_one_eq_mod (r / 16 + r) 4
    have h3 : (r + 256 * (q % 16)) / 16 = r / 16 + 16 * (q % 16) := by omega
    rw [show (0x0f : Nat) = 2 ^ 4 - 1 by decide, h1, h2, h3]
    omega
  rw [this]
def popU (r : Nat) : Nat := popS2 0x33 (popS1 0x55 r)
theorem popU_le : ∀ r : Fin 256, popS1 0x55 r.val < 256 ∧ popU r.val ≤ 68 ∧ popU r.val % 16 ≤ 4 ∧ popS3 0x0f (popU r.val) = popA 8 r.val := by decide +kernel
def popZ (k x : Nat) : Nat := popS2 (popM 0x33 k) (popS1 (popM 0x55 k) x)
def popP (k x : Nat) : Nat := popS3 (popM 0x0f k) (popZ k x)
theorem popZ_step (k x : Nat) : popZ (k + 1) x = 256 * popZ k (x / 256) + popU (x % 256) := by
  have hx : x % 256 < 256 := Nat.mod_lt _ (by decide)
  have h := popU_le ⟨x % 256, hx⟩
  have e : 256 * (x / 256) + x % 256 = x := by omega
  have := popS1_step (popM 0x55 k) (x / 256) (x % 256) hx
  rw [e] at this
  unfold popZ
  simp only [popM]
  rw [this, popS2_step _ _ _ h.1]
  rfl
theorem popZ_low (k x : Nat) : popZ k x % 16 ≤ 4 := by
  cases k with
  | zero => simp [popZ, popM, popS1, popS2]
  | succ k =>
    rw [popZ_step]
    have h := (popU_le ⟨x % 256, Nat.mod_lt _ (by decide)⟩).2.2.1
    simp only at h
    omega
theorem popP_step (k x : Nat) : popP (k + 1) x = 256 * popP k (x / 256) + popA 8 (x % 256) := by
  have h := popU_le ⟨x % 256, Nat.mod_lt _ (by decide)⟩
  unfold popP
  simp only [popM]
  rw [popZ_step, popS3_step _ _ _ h.2.1 (popZ_low _ _), h.2.2.2]
theorem pop8_le : ∀ r : Fin 256, popA 8 r.val ≤ 8 := by decide +kernel
theorem popP_sum (x : Nat) (hx : x < 2 ^ 64) : popP 8 x < 2 ^ 60 ∧ (let a := popP 8 x + popP 8 x / 256; let b := a + a / 65536; let c := b + b / 4294967296; c < 2 ^ 63 ∧ c % 128 = popA 64 x) := by
  have hb : ∀ y, popA 8 (y % 256) ≤ 8 := fun y => pop8_le ⟨y % 256, Nat.mod_lt _ (by decide)⟩
  have e64 : popA 64 x = popA (8 + 56) x := rfl
  rw [e64, popA_byte, show popA 56 (x / 256) = popA (8 + 48) (x / 256) from rfl, popA_byte, show popA 48 (x / 256 / 256) = popA (8 + 40) (x / 256 / 256) from rfl, popA_byte, show popA 40 (x / 256 / 256 / 256) = popA (8 + 32) (x / 256 / 256 / 256) from rfl, popA_byte, show popA 32 (x / 256 / 256 / 256 / 256) = popA (8 + 24) (x / 256 / 256 / 256 / 256) from rfl, popA_byte, show popA 24 (x / 256 / 256 / 256 / 256 / 256) = popA (8 + 16) (x / 256 / 256 / 256 / 256 / 256) from rfl, popA_byte, show popA 16 (x / 256 / 256 / 256 / 256 / 256 / 256) = popA (8 + 8) (x / 256 / 256 / 256 / 256 / 256 / 256) from rfl, popA_byte]
  have l8 : x / 256 / 256 / 256 / 256 / 256 / 256 / 256 < 256 := by omega
  rw [show popA 8 (x / 256 / 256 / 256 / 256 / 256 / 256 / 256) = popA 8 ((x / 256 / 256 / 256 / 256 / 256 / 256 / 256) % 256) by rw [Nat.mod_eq_of_lt l8]]
  have p0 : popP 0 (x / 256 / 256 / 256 / 256 / 256 / 256 / 256 / 256) = 0 := by simp [popP, popZ, popM, popS3]
  rw [show popP 8 x = _ from popP_step 7 x, popP_step 6, popP_step 5, popP_step 4, popP_step 3, popP_step 2, popP_step 1, popP_step 0, p0]
  have h0 := hb x
  have h1 := hb (x / 256)
  have h2 := hb (x / 256 / 256)
  have h3 := hb (x / 256 / 256 / 256)
  have h4 := hb (x / 256 / 256 / 256 / 256)
  have h5 := hb (x / 256 / 256 / 256 / 256 / 256)
  have h6 := hb (x / 256 / 256 / 256 / 256 / 256 / 256)
  have h7 := hb (x / 256 / 256 / 256 / 256 / 256 / 256 / 256)
  generalize popA 8 (x % 256) = q0 at *
  generalize popA 8 (x / 256 % 256) = q1 at *
  generalize popA 8 (x / 256 / 256 % 256) = q2 at *
  generalize popA 8 (x / 256 / 256 / 256 % 256) = q3 at *
  generalize popA 8 (x / 256 / 256 / 256 / 256 % 256) = q4 at *
  generalize popA 8 (x / 256 / 256 / 256 / 256 / 256 % 256) = q5 at *
  generalize popA 8 (x / 256 / 256 / 256 / 256 / 256 / 256 % 256) = q6 at *
  generalize popA 8 (x / 256 / 256 / 256 / 256 / 256 / 256 / 256 % 256) = q7 at *
  clear hx l8 p0 hb e64
  obtain ⟨y7, e7⟩ : ∃ y, y = q7 := ⟨_, rfl⟩
  obtain ⟨y6, e6⟩ : ∃ y, y = 256 * y7 + q6 := ⟨_, rfl⟩
  obtain ⟨y5, e5⟩ : ∃ y, y = 256 * y6 + q5 := ⟨_, rfl⟩
  obtain ⟨y4, e4⟩ : ∃ y, y = 256 * y5 + q4 := ⟨_, rfl⟩
  obtain ⟨y3, e3⟩ : ∃ y, y = 256 * y4 + q3 := ⟨_, rfl⟩
  obtain ⟨y2, e2⟩ : ∃ y, y = 256 * y3 + q2 := ⟨_, rfl⟩
  obtain ⟨y1, e1⟩ : ∃ y, y = 256 * y2 + q1 := ⟨_, rfl⟩
  obtain ⟨y0, e0⟩ : ∃ y, y = 256 * y1 + q0 := ⟨_, rfl⟩
  have E : 256 * (256 * (256 * (256 * (256 * (256 * (256 * (256 * 0 + q7) + q6) + q5) + q4) + q3) + q2) + q1) + q0 = y0 := by rw [e0, e1, e2, e3, e4, e5, e6, e7, Nat.mul_zero, Nat.zero_add]
  rw [E]
  clear E
  refine ⟨?_, ?_⟩
  · omega
  have d0 : y0 / 256 = y1 := by rw [e0]; clear e0 e1 e2 e3 e4 e5 e6 e7; omega
  have d1 : (y0 + y1) / 65536 = y2 + y3 := by rw [e0, e1, e2]; clear e0 e1 e2 e3 e4 e5 e6 e7 d0; omega
  have d2 : (y0 + y1 + (y2 + y3)) / 4294967296 = y4 + y5 + (y6 + y7) := by
    rw [e0, e1, e2, e3, e4, e5, e6]; clear e0 e1 e2 e3 e4 e5 e6 d0 d1; omega
  have hs : (y0 + y1 + (y2 + y3) + (y4 + y5 + (y6 + y7))) % 128 = q0 + (q1 + (q2 + (q3 + (q4 + (q5 + (q6 + q7)))))) := by
    rw [e0, e1, e2, e3, e4, e5, e6, e7]; clear e0 e1 e2 e3 e4 e5 e6 e7 d0 d1 d2; omega
  have hl : y0 + y1 + (y2 + y3) + (y4 + y5 + (y6 + y7)) < 2 ^ 63 := by omega
  intro a b c
  have ca : a = y0 + y1 := by show y0 + y0 / 256 = _; rw [d0]
  have cb : b = y0 + y1 + (y2 + y3) := by show a + a / 65536 = _; rw [ca, d1]
  have cc : c = y0 + y1 + (y2 + y3) + (y4 + y5 + (y6 + y7)) := by show b + b / 4294967296 = _; rw [cb, d2]
  rw [cc]
  exact ⟨hl, hs⟩
def cntN (p : Nat → Bool) : Nat → Nat
  | 0 => 0
  | k + 1 => cntN p k + (if p k then 1 else 0)
theorem pop_setN (p : Nat → Bool) : ∀ n, n ≤ 64 → popA 64 (setN p n) = cntN p n
  | 0, _ => by simp [setN, cntN, popA_zero]
  | n + 1, h => by
    have ih := pop_setN p n (by omega)
    simp only [setN, cntN]
    by_cases hp : p n = true
    · rw [if_pos hp, if_pos hp, popA_top 64 n _ (setN_lt p n) (by omega), ih]
    · rw [if_neg hp, if_neg hp, Nat.add_zero, Nat.add_zero, ih]
theorem cntN_congr {p q : Nat → Bool} : ∀ {n : Nat}, (∀ i, i < n → p i = q i) → cntN p n = cntN q n
  | 0, _ => rfl
  | n + 1, h => by
    simp only [cntN]
    rw [cntN_congr fun i hi => h i (by omega), h n (by omega)]
theorem cntN_none {p : Nat → Bool} : ∀ {n : Nat}, (∀ i, i < n → p i = false) → cntN p n = 0
  | 0, _ => rfl
  | n + 1, h => by
    simp only [cntN]
    rw [cntN_none fun i hi => h i (by omega), h n (by omega)]; simp
theorem cntN_le (p : Nat → Bool) : ∀ n, cntN p n ≤ n
  | 0 => Nat.le_refl _
  | n + 1 => by
    have := cntN_le p n
    simp only [cntN]
    split <;> omega
/-- The walk over the first k numbers: where f is least, and how often. -/
def scanN (f : Nat → Nat) : Nat → Nat × Nat
  | 0 => (0, 0)
  | k + 1 => if f k < f (scanN f k).1 then (k, 1) else if f k = f (scanN f k).1 then ((scanN f k).1, (scanN f k).2 + 1) else scanN f k
theorem scanN_less {f : Nat → Nat} {k : Nat} (h : f k < f (scanN f k).1) : scanN f (k + 1) = (k, 1) := if_pos h
theorem scanN_same {f : Nat → Nat} {k : Nat} (h : f k = f (scanN f k).1) : scanN f (k + 1) = ((scanN f k).1, (scanN f k).2 + 1) := by
  show (if _ then _ else _) = _
  rw [if_neg (by omega), if_pos h]
theorem scanN_more {f : Nat → Nat} {k : Nat} (h : f (scanN f k).1 < f k) : scanN f (k + 1) = scanN f k := by
  show (if _ then _ else _) = _
  rw [if_neg (by omega), if_neg (by omega)]
def Scanned (f : Nat → Nat) (n : Nat) (r : Nat × Nat) : Prop := r.1 < n ∧ (∀ i, i < n → f r.1 ≤ f i) ∧ (∀ i, i < r.1 → f r.1 < f i) ∧ r.2 = cntN (fun i => decide (f i = f r.1)) n
theorem scanN_spec (f : Nat → Nat) : ∀ k, Scanned f (k + 1) (scanN f (k + 1))
  | 0 => by
    rw [scanN_same (show f 0 = f (scanN f 0).1 from rfl)]
    refine ⟨by simp [scanN], fun i hi => ?_, fun i hi => ?_, ?_⟩
    · have : i = 0 := by omega
      subst this; exact Nat.le_refl _
    · simp [scanN] at hi
    · simp [scanN, cntN]
  | k + 1 => by
    obtain ⟨h1, h2, h3, h4⟩ := scanN_spec f k
    rcases Nat.lt_trichotomy (f (k + 1)) (f (scanN f (k + 1)).1) with h | h | h
    · rw [scanN_less h]
      refine ⟨Nat.lt_succ_self _, fun i hi => ?_, fun i hi => ?_, ?_⟩
      · by_cases e : i = k + 1
        · subst e; exact Nat.le_refl _
        · have := h2 i (by omega); show f (k + 1) ≤ _; omega
      · have := h2 i hi; show f (k + 1) < _; omega
      · show 1 = cntN _ (k + 1) + _
        rw [cntN_none fun i hi => ?_]
        · simp
        · have := h2 i hi
          show decide (f i = f (k + 1)) = false
          simp; omega
    · rw [scanN_same h]
      refine ⟨by show (scanN f (k + 1)).1 < _; omega, fun i hi => ?_, h3, ?_⟩
      · show f (scanN f (k + 1)).1 ≤ _
        by_cases e : i = k + 1
        · subst e; omega
        · exact h2 i (by omega)
      · show (scanN f (k + 1)).2 + 1 = cntN _ (k + 1) + _
        rw [h4]; simp [h]
    · rw [scanN_more h]
      refine ⟨by omega, fun i hi => ?_, h3, ?_⟩
      · by_cases e : i = k + 1
        · subst e; omega
        · exact h2 i (by omega)
      · show _ = cntN _ (k + 1) + _
        rw [← h4]
        have : ¬ f (k + 1) = f (scanN f (k + 1)).1 := by omega
        simp [this]
theorem scanN_at (f : Nat → Nat) {n : Nat} (h : 0 < n) : Scanned f n (scanN f n) := by
  obtain ⟨k, rfl⟩ : ∃ k, n = k + 1 := ⟨n - 1, by omega⟩
  exact scanN_spec f k
theorem scanN_bound (f : Nat → Nat) : ∀ k, (scanN f k).1 ≤ k ∧ (scanN f k).2 ≤ k
  | 0 => ⟨Nat.le_refl _, Nat.le_refl _⟩
  | k + 1 => by
    have h := scanN_at f (Nat.succ_pos k)
    exact ⟨Nat.le_of_lt h.1, by rw [h.2.2.2]; exact cntN_le _ _⟩
/-- The numbers below n with p, in their order. -/
def filtN (p : Nat → Bool) : Nat → List Int
  | 0 => []
  | k + 1 => if p k then filtN p k ++ [(k : Int)] else filtN p k
theorem filtN_yes {p : Nat → Bool} {k : Nat} (h : p k = true) : filtN p (k + 1) = filtN p k ++ [(k : Int)] := if_pos h
theorem filtN_no {p : Nat → Bool} {k : Nat} (h : p k = false) : filtN p (k + 1) = filtN p k := if_neg (by simp [h])
theorem filtN_skip {p : Nat → Bool} {a : Nat} : ∀ {b : Nat}, a ≤ b → (∀ i, a ≤ i → i < b → p i = false) → filtN p b = filtN p a
  | 0, h, _ => by have : a = 0 := by omega
                  rw [this]
  | b + 1, h, hf => by
    by_cases e : a = b + 1
    · rw [e]
    · rw [filtN_no (hf b (by omega) (by omega))]
      exact filtN_skip (by omega) fun i h1 h2 => hf i h1 (by omega)
theorem filtN_len (p : Nat → Bool) : ∀ k, (filtN p k).length ≤ k
  | 0 => Nat.le_refl _
  | k + 1 => by
    have := filtN_len p k
    simp only [filtN]
    split <;> simp <;> omega
theorem filtN_congr {p q : Nat → Bool} : ∀ {n : Nat}, (∀ i, i < n → p i = q i) → filtN p n = filtN q n
  | 0, _ => rfl
  | n + 1, h => by
    simp only [filtN]
    rw [filtN_congr fun i hi => h i (by omega), h n (by omega)]
end Go.Proofs.YtkfeihnapcfkgaaDoor
