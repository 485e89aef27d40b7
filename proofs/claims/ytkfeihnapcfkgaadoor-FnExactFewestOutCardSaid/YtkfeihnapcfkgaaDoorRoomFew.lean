/-
  FewestOut: sets of guests in their order, the first set without which all others can go. Nothing of the program stands here.
-/
import Derived.Test.YtkfeihnapcfkgaaDoorRoomOrd
namespace Go.Proofs.YtkfeihnapcfkgaaDoor
open Go.RowKit

/-- The first of two sets of as many guests, compared number by number. -/
def Bfs (s t : Nat) : Prop := ∃ i, (∀ j, j < i → s.testBit j = t.testBit j) ∧ s.testBit i = true ∧ t.testBit i = false
theorem bfs_irr {s : Nat} : ¬ Bfs s s := fun ⟨i, _, h1, h2⟩ => by rw [h1] at h2; exact absurd h2 (by decide)
theorem bfs_trans {a b c : Nat} : Bfs a b → Bfs b c → Bfs a c := by
  rintro ⟨i, h1, h2, h3⟩ ⟨k, g1, g2, g3⟩
  rcases Nat.lt_trichotomy i k with h | h | h
  · exact ⟨i, fun j hj => (h1 j hj).trans (g1 j (by omega)), h2, by rw [← g1 i h]; exact h3⟩
  · subst h
    rw [h3] at g2
    exact absurd g2 (by decide)
  · exact ⟨k, fun j hj => (h1 j (by omega)).trans (g1 j hj), by rw [h1 k h]; exact g2, g3⟩
def sizeS (m s : Nat) : Nat := cntN (fun i => s.testBit i) m
theorem xor_first {m s t : Nat} (hm : m ≤ 40) (hs : s < 2 ^ m) (ht : t < 2 ^ m) (h : s ≠ t) : Lib.ctz 64 (s ^^^ t) < m ∧ s.testBit (Lib.ctz 64 (s ^^^ t)) ≠ t.testBit (Lib.ctz 64 (s ^^^ t)) ∧ ∀ i, i < Lib.ctz 64 (s ^^^ t) → s.testBit i = t.testBit i := by
  have hx := setN_self (Nat.xor_lt_two_pow hs ht)
  have h0 : setN (fun i => (s ^^^ t).testBit i) m ≠ 0 := by
    rw [hx]
    intro h2
    exact h (Nat.eq_of_testBit_eq fun i => by
      have := congrArg (fun y => Nat.testBit y i) h2
      simp only [Nat.testBit_xor, Nat.zero_testBit] at this
      revert this
      cases s.testBit i <;> cases t.testBit i <;> simp)
  obtain ⟨h1, h2, h3⟩ := ctz_first hm h0
  rw [hx] at h1 h2 h3
  refine ⟨h1, ?_, fun i hi => ?_⟩
  · rw [Nat.testBit_xor] at h2
    revert h2
    cases s.testBit (Lib.ctz 64 (s ^^^ t)) <;> cases t.testBit (Lib.ctz 64 (s ^^^ t)) <;> simp
  · have := h3 i hi
    rw [Nat.testBit_xor] at this
    revert this
    cases s.testBit i <;> cases t.testBit i <;> simp
theorem bfs_ctz {m s t : Nat} (hm : m ≤ 40) (hs : s < 2 ^ m) (ht : t < 2 ^ m) (h : s ≠ t) : s.testBit (Lib.ctz 64 (s ^^^ t)) = true ↔ Bfs s t := by
  obtain ⟨h1, h2, h3⟩ := xor_first hm hs ht h
  generalize Lib.ctz 64 (s ^^^ t) = i at h1 h2 h3
  constructor
  · intro h4
    exact ⟨i, h3, h4, by rw [h4] at h2; revert h2; cases t.testBit i <;> simp⟩
  · rintro ⟨k, g1, g2, g3⟩
    rcases Nat.lt_trichotomy i k with h | h | h
    · exact absurd (g1 i h) h2
    · subst h; exact g2
    · have := h3 k h
      rw [g2, g3] at this
      exact absurd this (by decide)
theorem bfs_total {m s t : Nat} (hm : m ≤ 40) (hs : s < 2 ^ m) (ht : t < 2 ^ m) (h : s ≠ t) : Bfs s t ∨ Bfs t s := by
  obtain ⟨h1, h2, h3⟩ := xor_first hm hs ht h
  generalize Lib.ctz 64 (s ^^^ t) = i at h1 h2 h3
  cases hs : s.testBit i with
  | true => exact .inl ⟨i, h3, hs, by rw [hs] at h2; revert h2; cases t.testBit i <;> simp⟩
  | false => exact .inr ⟨i, fun j hj => (h3 j hj).symm, by rw [hs] at h2; revert h2; cases t.testBit i <;> simp, hs⟩
/-- Fewer guests, or as many and the first one. -/
def Bf (m s t : Nat) : Prop := sizeS m s < sizeS m t ∨ (sizeS m s = sizeS m t ∧ Bfs s t)
theorem bf_irr {m s : Nat} : ¬ Bf m s s := fun h => h.elim (Nat.lt_irrefl _) fun h => bfs_irr h.2
theorem bf_trans {m a b c : Nat} : Bf m a b → Bf m b c → Bf m a c := by
  rintro (h | ⟨h, h2⟩) (g | ⟨g, g2⟩)
  · exact .inl (by omega)
  · exact .inl (by omega)
  · exact .inl (by omega)
  · exact .inr ⟨h.trans g, bfs_trans h2 g2⟩
theorem bf_total {m s t : Nat} (hm : m ≤ 40) (hs : s < 2 ^ m) (ht : t < 2 ^ m) (h : s ≠ t) : Bf m s t ∨ Bf m t s := by
  rcases Nat.lt_trichotomy (sizeS m s) (sizeS m t) with h1 | h1 | h1
  · exact .inl (.inl h1)
  · exact (bfs_total hm hs ht h).imp (fun g => .inr ⟨h1, g⟩) (fun g => .inr ⟨h1.symm, g⟩)
  · exact .inr (.inl h1)
def befB (m s t : Nat) : Bool := if sizeS m s = sizeS m t then s.testBit (Lib.ctz 64 (s ^^^ t)) else decide (sizeS m s < sizeS m t)
theorem befB_iff {m s t : Nat} (hm : m ≤ 40) (hs : s < 2 ^ m) (ht : t < 2 ^ m) (h : s ≠ t) : befB m s t = true ↔ Bf m s t := by
  unfold befB Bf
  split
  · rename_i e
    rw [bfs_ctz hm hs ht h]
    exact ⟨fun g => .inr ⟨e, g⟩, fun g => g.elim (fun g => absurd g (by omega)) (·.2)⟩
  · rename_i e
    exact ⟨fun g => .inl (of_decide_eq_true g), fun g => g.elim decide_eq_true (fun g => absurd g.1 e)⟩

/-- The program's way: the first of the sets below x without which all others can go; all guests if there is none. -/
def fewF (ok : Nat → Bool) (m : Nat) : Nat → Nat
  | 0 => 2 ^ m - 1
  | x + 1 => if befB m x (fewF ok m x) && ok x then x else fewF ok m x
theorem fewF_ok {ok : Nat → Bool} {m : Nat} (hm : m ≤ 40) (ha : ok (2 ^ m - 1) = true) : ∀ x, x ≤ 2 ^ m - 1 → ok (fewF ok m x) = true ∧ fewF ok m x < 2 ^ m ∧ (fewF ok m x = 2 ^ m - 1 ∨ fewF ok m x < x) ∧ ∀ y, y < x ∨ y = 2 ^ m - 1 → ok y = true → ¬ Bf m y (fewF ok m x)
  | 0, _ => by
    have := Nat.two_pow_pos m
    refine ⟨ha, by show 2 ^ m - 1 < 2 ^ m; omega, .inl rfl, fun y hy _ => ?_⟩
    rcases hy with hy | rfl
    · omega
    · exact bf_irr
  | x + 1, hx => by
    obtain ⟨h1, h2, h3, h4⟩ := fewF_ok hm ha x (by omega)
    have hne : x ≠ fewF ok m x := by omega
    rw [fewF]
    split
    · rename_i hc
      rw [Bool.and_eq_true] at hc
      have hb := (befB_iff hm (by omega) h2 hne).1 hc.1
      refine ⟨hc.2, by omega, .inr (by omega), fun y hy hk hbf => ?_⟩
      by_cases e : y = x
      · subst e; exact bf_irr hbf
      · exact h4 y (by omega) hk (bf_trans hbf hb)
    · rename_i hc
      rw [Bool.and_eq_true] at hc
      refine ⟨h1, h2, by omega, fun y hy hk hbf => ?_⟩
      by_cases e : y = x
      · subst e; exact hc ⟨(befB_iff hm (by omega) h2 hne).2 hbf, hk⟩
      · exact h4 y (by omega) hk hbf

/-- The first of so many numbers, from one on, at which a search finds something. -/
def firstSome (f : Nat → Option Nat) (a : Nat) : Nat → Option Nat
  | 0 => none
  | n + 1 => match f a with
    | some y => some y
    | none => firstSome f (a + 1) n
theorem firstSome_some {f : Nat → Option Nat} {y : Nat} : ∀ {n a : Nat}, firstSome f a n = some y → ∃ i, a ≤ i ∧ i < a + n ∧ f i = some y ∧ ∀ j, a ≤ j → j < i → f j = none
  | 0, a, h => by simp [firstSome] at h
  | n + 1, a, h => by
    rw [firstSome] at h
    cases hf : f a with
    | some z =>
      rw [hf] at h
      exact ⟨a, Nat.le_refl _, by omega, hf.trans h, fun j h1 h2 => by omega⟩
    | none =>
      rw [hf] at h
      obtain ⟨i, h1, h2, h3, h4⟩ := firstSome_some h
      refine ⟨i, by omega, by omega, h3, fun j g1 g2 => ?_⟩
      by_cases e : j = a
      · rw [e]; exact hf
      · exact h4 j (by omega) g2
theorem firstSome_none {f : Nat → Option Nat} : ∀ {n a : Nat}, firstSome f a n = none → ∀ j, a ≤ j → j < a + n → f j = none
  | 0, a, h, j, h1, h2 => by omega
  | n + 1, a, h, j, h1, h2 => by
    rw [firstSome] at h
    cases hf : f a with
    | some z => rw [hf] at h; exact absurd h (by simp)
    | none =>
      rw [hf] at h
      by_cases e : j = a
      · rw [e]; exact hf
      · exact firstSome_none h j (by omega) (by omega)
/-- The model's way: the first set of so many more guests, from an index on. -/
def fewN (ok : Nat → Bool) (m : Nat) : Nat → Nat → Nat → Option Nat
  | 0, _, x => if ok x = true then some x else none
  | r + 1, a, x => firstSome (fun i => fewN ok m r (i + 1) (x ||| 2 ^ i)) a (m - r - a)
theorem cntN_upto {p q : Nat → Bool} {a : Nat} : ∀ {m : Nat}, a ≤ m → (∀ j, j < a → p j = q j) → cntN p m ≤ cntN q m + (m - a)
  | 0, _, _ => by simp [cntN]
  | m + 1, h, hj => by
    by_cases e : a = m + 1
    · rw [cntN_congr (q := q) (fun i hi => hj i (by omega))]; omega
    · have := cntN_upto (m := m) (p := p) (q := q) (a := a) (by omega) hj
      simp only [cntN]
      split <;> split <;> omega
theorem sizeS_or {m x i : Nat} (hi : i < m) (hn : x.testBit i = false) : sizeS m (x ||| 2 ^ i) = sizeS m x + 1 := by
  unfold sizeS
  refine (cntN_one (k := i) (fun j _ hj => ?_) hi ?_ hn).symm
  · rw [Nat.testBit_or, Nat.testBit_two_pow]
    have : ¬ i = j := fun h => hj h.symm
    simp [this]
  · rw [Nat.testBit_or, Nat.testBit_two_pow]; simp
/-- A set that has so many more guests, from an index on. -/
def Cand (m r a x y : Nat) : Prop := y < 2 ^ m ∧ sizeS m y = sizeS m x + r ∧ ∀ j, j < a → y.testBit j = x.testBit j
theorem bit_below {x a j : Nat} (h : x < 2 ^ a) (hj : a ≤ j) : x.testBit j = false := Nat.testBit_lt_two_pow (Nat.lt_of_lt_of_le h (Nat.pow_le_pow_right (by decide) hj))
theorem cand_zero {m a x y : Nat} (hx : x < 2 ^ a) (ha : a ≤ m) (h : Cand m 0 a x y) : y = x := by
  obtain ⟨h1, h2, h3⟩ := h
  refine Nat.eq_of_testBit_eq fun i => ?_
  by_cases hi : i < a
  · exact h3 i hi
  · by_cases him : i < m
    · rw [bit_below hx (by omega)]
      cases hy : y.testBit i with
      | false => rfl
      | true =>
        have : sizeS m x < sizeS m y := cntN_less (k := i) (fun j _ hj => by
          by_cases hja : j < a
          · rw [h3 j hja]; exact hj
          · rw [bit_below hx (by omega)] at hj; exact absurd hj (by decide)) him hy (bit_below hx (by omega))
        omega
    · rw [bit_below h1 (by omega), bit_below (Nat.lt_of_lt_of_le hx (Nat.pow_le_pow_right (by decide) ha)) (by omega)]
theorem cand_next {m r a x y : Nat} (hx : x < 2 ^ a) (hm : m ≤ 40) (h : Cand m (r + 1) a x y) : ∃ i, a ≤ i ∧ i < a + (m - r - a) ∧ Cand m r (i + 1) (x ||| 2 ^ i) y ∧ (∀ j, a ≤ j → j < i → y.testBit j = false) ∧ y.testBit i = true := by
  obtain ⟨h1, h2, h3⟩ := h
  have h0 : setN (fun i => decide (a ≤ i) && y.testBit i) m ≠ 0 := by
    intro hz
    rw [setN_zero] at hz
    have : sizeS m y = sizeS m x := cntN_congr fun i hi => by
      by_cases hia : i < a
      · exact h3 i hia
      · have := hz i hi
        simp only [Bool.and_eq_false_iff, decide_eq_false_iff_not] at this
        rw [bit_below hx (by omega)]
        exact this.resolve_left (by omega)
    omega
  obtain ⟨g1, g2, g3⟩ := ctz_first hm h0
  generalize Lib.ctz 64 (setN (fun i => decide (a ≤ i) && y.testBit i) m) = i at g1 g2 g3
  simp only [Bool.and_eq_true, decide_eq_true_eq] at g2
  have g4 : ∀ j, a ≤ j → j < i → y.testBit j = false := fun j hj hji => by
    have := g3 j hji
    simp only [Bool.and_eq_false_iff, decide_eq_false_iff_not] at this
    exact this.resolve_left (by omega)
  have hxi : x.testBit i = false := bit_below hx g2.1
  have hag : ∀ j, j < i + 1 → y.testBit j = (x ||| 2 ^ i).testBit j := fun j hj => by
    rw [Nat.testBit_or, Nat.testBit_two_pow]
    by_cases e : i = j
    · subst e; rw [g2.2]; simp
    · rw [decide_eq_false e, Bool.or_false]
      by_cases hja : j < a
      · exact h3 j hja
      · rw [g4 j (by omega) (by omega), bit_below hx (by omega)]
  have hc := cntN_upto (p := fun j => y.testBit j) (q := fun j => (x ||| 2 ^ i).testBit j) (m := m) (a := i + 1) (by omega) hag
  have hs := sizeS_or (x := x) g1 hxi
  unfold sizeS at hs h2
  refine ⟨i, g2.1, by omega, ⟨h1, ?_, hag⟩, g4, g2.2⟩
  unfold sizeS
  omega
theorem fewN_is {ok : Nat → Bool} {m : Nat} (hm : m ≤ 40) : ∀ r a x, x < 2 ^ a → a ≤ m →
    match fewN ok m r a x with
    | some y => Cand m r a x y ∧ ok y = true ∧ ∀ z, Cand m r a x z → ok z = true → ¬ Bfs z y
    | none => ∀ z, Cand m r a x z → ok z = true → False
  | 0, a, x, hx, ha => by
    have hxm : x < 2 ^ m := Nat.lt_of_lt_of_le hx (Nat.pow_le_pow_right (by decide) ha)
    rw [fewN]
    cases ho : ok x with
    | true =>
      rw [if_pos rfl]
      exact ⟨⟨hxm, rfl, fun _ _ => rfl⟩, ho, fun z hz _ hb => by rw [cand_zero hx ha hz] at hb; exact bfs_irr hb⟩
    | false =>
      rw [if_neg (by decide)]
      intro z hz hk
      rw [cand_zero hx ha hz, ho] at hk
      exact absurd hk (by decide)
  | r + 1, a, x, hx, ha => by
    have hlt : ∀ i, a ≤ i → x ||| 2 ^ i < 2 ^ (i + 1) := fun i hi => Nat.or_lt_two_pow (Nat.lt_of_lt_of_le hx (Nat.pow_le_pow_right (by decide) (by omega))) (Nat.pow_lt_pow_right (by decide) (by omega))
    have ih : ∀ i, a ≤ i → i < a + (m - r - a) → _ := fun i hi hi2 => fewN_is (ok := ok) hm r (i + 1) (x ||| 2 ^ i) (hlt i hi) (by omega)
    rw [fewN]
    split
    · rename_i y hy
      obtain ⟨i, h1, h2, h3, h4⟩ := firstSome_some hy
      have hi := ih i h1 h2
      rw [h3] at hi
      obtain ⟨⟨c1, c2, c3⟩, c4, c5⟩ := hi
      have hxi : x.testBit i = false := bit_below hx h1
      have hs := sizeS_or (m := m) (by omega) hxi
      have hyb : ∀ j, j < i → y.testBit j = x.testBit j := fun j hj => by
        rw [c3 j (by omega), Nat.testBit_or, Nat.testBit_two_pow]
        have : ¬ i = j := by omega
        simp [this]
      refine ⟨⟨c1, by omega, fun j hj => hyb j (by omega)⟩, c4, fun z hz hk hb => ?_⟩
      obtain ⟨i2, e1, e2, e3, e4, e5⟩ := cand_next hx hm hz
      rcases Nat.lt_trichotomy i2 i with h | h | h
      · have h6 := ih i2 e1 e2
        rw [h4 i2 e1 h] at h6
        exact h6 z e3 hk
      · subst h
        exact c5 z e3 hk hb
      · have hyi : y.testBit i = true := by rw [c3 i (by omega), Nat.testBit_or, Nat.testBit_two_pow]; simp
        have hzi := e4 i h1 h
        have hsame : ∀ j, j < i → z.testBit j = y.testBit j := fun j hj => by
          rw [hyb j hj]
          by_cases hja : j < a
          · exact hz.2.2 j hja
          · rw [e4 j (by omega) (by omega), bit_below hx (by omega)]
        obtain ⟨k, k1, k2, k3⟩ := hb
        rcases Nat.lt_trichotomy k i with hk2 | hk2 | hk2
        · have := hsame k hk2
          rw [k2, k3] at this
          exact absurd this (by decide)
        · subst hk2
          rw [hzi] at k2
          exact absurd k2 (by decide)
        · have := k1 i hk2
          rw [hzi, hyi] at this
          exact absurd this (by decide)
    · rename_i hy
      intro z hz hk
      obtain ⟨i2, e1, e2, e3, _, _⟩ := cand_next hx hm hz
      have h6 := ih i2 e1 e2
      rw [firstSome_none hy i2 e1 e2] at h6
      exact h6 z e3 hk
/-- Both ways end at the same set. -/
theorem fewN_eq {ok : Nat → Bool} {m n y : Nat} (hm : m ≤ 40) (ha : ok (2 ^ m - 1) = true) (hn : fewN ok m n 0 0 = some y) (hb : ∀ k, k < n → fewN ok m k 0 0 = none) : y = fewF ok m (2 ^ m - 1) := by
  obtain ⟨h1, h2, _, h4⟩ := fewF_ok (ok := ok) hm ha (2 ^ m - 1) (Nat.le_refl _)
  generalize fewF ok m (2 ^ m - 1) = f at h1 h2 h4
  have hz : sizeS m 0 = 0 := by
    unfold sizeS
    rw [cntN_nil]
    exact setN_zero.2 fun i _ => Nat.zero_testBit i
  have h5 := fewN_is (ok := ok) hm n 0 0 (by decide) (Nat.zero_le _)
  rw [hn] at h5
  obtain ⟨⟨c1, c2, _⟩, c4, c5⟩ := h5
  by_cases e : y = f
  · exact e
  · exfalso
    rcases bf_total hm c1 h2 e with h | h
    · refine h4 y ?_ c4 h
      omega
    · rcases h with h | ⟨h, h'⟩
      · have h6 := fewN_is (ok := ok) hm (sizeS m f) 0 0 (by decide) (Nat.zero_le _)
        rw [hb _ (by omega)] at h6
        exact h6 f ⟨h2, by omega, fun j hj => by omega⟩ h1
      · exact c5 f ⟨h2, by omega, fun j hj => by omega⟩ h1 h'
/-- There is one within all guests. -/
theorem fewN_all {ok : Nat → Bool} {m : Nat} (hm : m ≤ 40) (ha : ok (2 ^ m - 1) = true) (hb : ∀ k, k ≤ m → fewN ok m k 0 0 = none) : False := by
  have hp := Nat.two_pow_pos m
  have hz : sizeS m 0 = 0 := by
    unfold sizeS
    rw [cntN_nil]
    exact setN_zero.2 fun i _ => Nat.zero_testBit i
  have h6 := fewN_is (ok := ok) hm (sizeS m (2 ^ m - 1)) 0 0 (by decide) (Nat.zero_le _)
  rw [hb (sizeS m (2 ^ m - 1)) (cntN_le _ _)] at h6
  exact h6 (2 ^ m - 1) ⟨by omega, by omega, fun j hj => by omega⟩ ha
end Go.Proofs.YtkfeihnapcfkgaaDoor
