/-
  The least distance of two of several lists, found pair by pair: plain facts. Nothing of the program stands here.
-/
import Derived.Test.YtpkkibnpjhlfmaaDoorAdrMath
namespace Go.Proofs.YtpkkibnpjhlfmaaDoor
open Go.RowKit

/-- l is the least distance, 8 at most, of the pairs that 'Pr' tells. -/
def MinOf (ws : List (List UInt8)) (Pr : Nat → Nat → Prop) (l : Nat) : Prop :=
  l ≤ 8 ∧ (∀ b s, s < b → Pr b s → l ≤ farL (ws.getD b []) (ws.getD s [])) ∧ (l = 8 ∨ ∃ b s, s < b ∧ Pr b s ∧ farL (ws.getD b []) (ws.getD s []) = l)
theorem minOf_zero {ws : List (List UInt8)} {Pr : Nat → Nat → Prop} (h : ∀ b s, s < b → ¬ Pr b s) : MinOf ws Pr 8 := ⟨Nat.le_refl _, fun b s hs hp => absurd hp (h b s hs), .inl rfl⟩
theorem minOf_next {ws : List (List UInt8)} {Pr Pr' : Nat → Nat → Prop} {l b0 s0 : Nat} (h : MinOf ws Pr l) (hs : s0 < b0) (h1 : ∀ b s, s < b → (Pr' b s ↔ Pr b s ∨ (b = b0 ∧ s = s0))) : MinOf ws Pr' (min l (farL (ws.getD b0 []) (ws.getD s0 []))) := by
  obtain ⟨h8, hl, hx⟩ := h
  refine ⟨by omega, fun b s hs' hp => ?_, ?_⟩
  · rcases (h1 b s hs').1 hp with h | ⟨rfl, rfl⟩
    · have := hl b s hs' h; omega
    · omega
  · by_cases hm : farL (ws.getD b0 []) (ws.getD s0 []) < l
    · right
      exact ⟨b0, s0, hs, (h1 b0 s0 hs).2 (.inr ⟨rfl, rfl⟩), by omega⟩
    · have e : min l (farL (ws.getD b0 []) (ws.getD s0 [])) = l := by omega
      rw [e]
      rcases hx with h | ⟨b, s, hs', hp, e⟩
      · exact .inl h
      · exact .inr ⟨b, s, hs', (h1 b s hs').2 (.inl hp), e⟩
theorem minOf_same {ws : List (List UInt8)} {Pr Pr' : Nat → Nat → Prop} {l : Nat} (h : MinOf ws Pr l) (h1 : ∀ b s, s < b → (Pr' b s ↔ Pr b s)) : MinOf ws Pr' l := by
  obtain ⟨h8, hl, hx⟩ := h
  refine ⟨h8, fun b s hs hp => hl b s hs ((h1 b s hs).1 hp), ?_⟩
  rcases hx with h | ⟨b, s, hs, hp, e⟩
  · exact .inl h
  · exact .inr ⟨b, s, hs, (h1 b s hs).2 hp, e⟩
theorem minOf_end {ws : List (List UInt8)} {Pr : Nat → Nat → Prop} {l : Nat} (h : MinOf ws Pr l) (hn : 2 ≤ ws.length) (h8 : ∀ i, i < ws.length → (ws.getD i []).length ≤ 8) (h1 : ∀ b s, s < b → (Pr b s ↔ b < ws.length)) : l = leastD ws := by
  obtain ⟨hl8, hl, hx⟩ := h
  refine (leastD_of hl8 ?_ (fun i hi k hk => hl i k hk ((h1 i k hk).2 hi))).symm
  rcases hx with rfl | ⟨b, s, hs, hp, e⟩
  · have h2 := hl 1 0 (by omega) ((h1 1 0 (by omega)).2 (by omega))
    have h3 := farL_le (ws.getD 1 []) (ws.getD 0 [])
    have h4 := h8 1 (by omega)
    exact ⟨1, by omega, 0, by omega, by omega⟩
  · exact ⟨b, (h1 b s hs).1 hp, s, hs, e⟩
/-- The pairs that the model has met: those of the first i, and the first k of the one behind them. -/
def PrS (i k : Nat) (b s : Nat) : Prop := b < i ∨ (b = i ∧ s < k)
/-- What the model has found: -1 as long as there was no pair, else the least distance. -/
def LS (ws : List (List UInt8)) (i k : Nat) (l : Int) : Prop := (l = -1 ∧ ∀ b s, s < b → ¬ PrS i k b s) ∨ ∃ m : Nat, l = m ∧ MinOf ws (PrS i k) m ∧ ∃ b s, s < b ∧ PrS i k b s
theorem LS_zero (ws : List (List UInt8)) : LS ws 0 0 (-1) := .inl ⟨rfl, fun b s hs h => by rcases h with h | ⟨_, h⟩ <;> omega⟩
theorem LS_row {ws : List (List UInt8)} {i : Nat} {l : Int} (h : LS ws i i l) : LS ws (i + 1) 0 l := by
  have e : ∀ b s, s < b → (PrS (i + 1) 0 b s ↔ PrS i i b s) := fun b s hs => by unfold PrS; omega
  rcases h with ⟨h1, h2⟩ | ⟨m, h1, h2, b, s, hs, hp⟩
  · exact .inl ⟨h1, fun b s hs h => h2 b s hs ((e b s hs).1 h)⟩
  · exact .inr ⟨m, h1, minOf_same h2 e, b, s, hs, (e b s hs).2 hp⟩
theorem LS_next {ws : List (List UInt8)} {i k : Nat} {l : Int} (h : LS ws i k l) (hk : k < i) (h8 : (ws.getD i []).length ≤ 8) : LS ws i (k + 1) (if l < 0 ∨ (farL (ws.getD i []) (ws.getD k []) : Int) < l then (farL (ws.getD i []) (ws.getD k []) : Int) else l) := by
  have e : ∀ b s, s < b → (PrS i (k + 1) b s ↔ PrS i k b s ∨ (b = i ∧ s = k)) := fun b s hs => by unfold PrS; omega
  have hf := farL_le (ws.getD i []) (ws.getD k [])
  have hp : PrS i (k + 1) i k := .inr ⟨rfl, by omega⟩
  rcases h with ⟨rfl, h2⟩ | ⟨m, rfl, h2, b, s, hs, _⟩
  · rw [if_pos (.inl (by omega))]
    refine .inr ⟨_, rfl, ?_, i, k, hk, hp⟩
    have := minOf_next (Pr' := PrS i (k + 1)) (minOf_zero (ws := ws) h2) hk e
    rwa [Nat.min_eq_right (by omega)] at this
  · have := minOf_next (Pr' := PrS i (k + 1)) h2 hk e
    refine .inr ⟨_, ?_, this, i, k, hk, hp⟩
    split <;> omega
theorem LS_end {ws : List (List UInt8)} {l : Int} (h : LS ws ws.length 0 l) (hn : 2 ≤ ws.length) (h8 : ∀ i, i < ws.length → (ws.getD i []).length ≤ 8) : l = (leastD ws : Nat) := by
  have e : ∀ b s, s < b → (PrS ws.length 0 b s ↔ b < ws.length) := fun b s hs => by unfold PrS; omega
  rcases h with ⟨_, h2⟩ | ⟨m, rfl, h2, _⟩
  · exact absurd ((e 1 0 (by omega)).2 (by omega)) (h2 1 0 (by omega))
  · rw [minOf_end h2 hn h8 e]
theorem LS_bound {ws : List (List UInt8)} {i k : Nat} {l : Int} (h : LS ws i k l) : -1 ≤ l ∧ l ≤ 8 := by
  rcases h with ⟨rfl, _⟩ | ⟨m, rfl, h2, _⟩
  · omega
  · have := h2.1; omega
/-- The pairs that the program has met: those of the first i with all behind them, and t more of the next. -/
def PrI (n i t : Nat) (b s : Nat) : Prop := b < n ∧ (s < i ∨ (s = i ∧ b < i + 1 + t))
theorem PrI_zero (n b s : Nat) (hs : s < b) : ¬ PrI n 0 0 b s := by unfold PrI; omega
theorem PrI_next {n i t b s : Nat} (h : i + 1 + t < n) (_hs : s < b) : PrI n i (t + 1) b s ↔ PrI n i t b s ∨ (b = i + 1 + t ∧ s = i) := by unfold PrI; omega
theorem PrI_row {n i b s : Nat} (hi : i < n) (hs : s < b) : PrI n (i + 1) 0 b s ↔ PrI n i (n - (i + 1)) b s := by unfold PrI; omega
theorem PrI_end {n b s : Nat} (hs : s < b) : PrI n n 0 b s ↔ b < n := by unfold PrI; omega
end Go.Proofs.YtpkkibnpjhlfmaaDoor
