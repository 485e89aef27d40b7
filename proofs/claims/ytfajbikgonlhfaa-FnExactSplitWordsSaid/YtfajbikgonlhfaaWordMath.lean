/-
  The words of a text: its pieces without blanks, found byte by byte or rune by rune: plain facts. Nothing of the program stands here.
-/
import Derived.Lib.FieldsP
import Derived.Lib.DecodeN
namespace Go.Proofs.Ytfajbikgonlhfaa
open Go.Lib

/-- The spans of the words, byte by byte. -/
def spB (s : ByteArray) : Nat → Nat → Option Nat → List (Nat × Nat) → List (Nat × Nat) × Option Nat
  | 0, _, st, acc => (acc, st)
  | f + 1, pos, st, acc =>
    if pos < s.size then
      (if s.get! pos = 32 then
        (match st with
         | some a => spB s f (pos + 1) none (acc ++ [(a, pos)])
         | none => spB s f (pos + 1) none acc)
       else
        (match st with
         | some a => spB s f (pos + 1) (some a) acc
         | none => spB s f (pos + 1) (some pos) acc))
    else (acc, st)
theorem spB_end (s : ByteArray) (f pos : Nat) (st : Option Nat) (acc : List (Nat × Nat)) (h : ¬ pos < s.size) : spB s f pos st acc = (acc, st) := by
  cases f with
  | zero => rfl
  | succ f => simp [spB, h]
theorem spB_fuel (s : ByteArray) : ∀ (f g pos : Nat) (st : Option Nat) (acc : List (Nat × Nat)), s.size ≤ pos + f → s.size ≤ pos + g → spB s f pos st acc = spB s g pos st acc
  | 0, g, pos, st, acc, hf, _ => by rw [spB_end s g pos st acc (by omega)]; rfl
  | f + 1, 0, pos, st, acc, _, hg => by rw [spB_end s (f + 1) pos st acc (by omega)]; rfl
  | f + 1, g + 1, pos, st, acc, hf, hg => by
    unfold spB
    split
    · split
      · cases st <;> exact spB_fuel s f g _ _ _ (by omega) (by omega)
      · cases st <;> exact spB_fuel s f g _ _ _ (by omega) (by omega)
    · rfl
theorem dec_blank (s : ByteArray) (i : Nat) (hi : i < s.size) : ((Utf8.decode s i).1 = 32 → (Utf8.decode s i).2 = 1 ∧ s.get! i = 32) ∧
    (¬ (Utf8.decode s i).1 = 32 → 1 ≤ (Utf8.decode s i).2 ∧ i + (Utf8.decode s i).2 ≤ s.size ∧ ∀ j, j < (Utf8.decode s i).2 → ¬ s.get! (i + j) = 32) := by
  rw [decode_at]
  have hb : ∀ k, (s.get! k).toNat = 32 ↔ s.get! k = 32 := fun k => ⟨fun h => UInt8.toNat_inj.1 h, fun h => by rw [h]; rfl⟩
  have h0 := hb i
  have h1 := hb (i + 1)
  have h2 := hb (i + 2)
  have h3 := hb (i + 3)
  rw [← h0]
  have hj : ∀ j, j < 4 → (¬ s.get! (i + j) = 32 ↔ ¬ (s.get! (i + j)).toNat = 32) := fun j _ => by rw [hb]
  generalize hn : s.size - i = n
  have hn1 : 1 ≤ n := by omega
  generalize ha0 : (s.get! i).toNat = b0 at *
  generalize ha1 : (s.get! (i + 1)).toNat = b1 at *
  generalize ha2 : (s.get! (i + 2)).toNat = b2 at *
  generalize ha3 : (s.get! (i + 3)).toNat = b3 at *
  have cases4 : ∀ w, w ≤ 4 → (∀ j, j < w → ((j = 0 → ¬ b0 = 32) ∧ (j = 1 → ¬ b1 = 32) ∧ (j = 2 → ¬ b2 = 32) ∧ (j = 3 → ¬ b3 = 32))) → ∀ j, j < w → ¬ s.get! (i + j) = 32 := by
    intro w hw h j hjw
    rw [hj j (by omega)]
    have h := h j hjw
    rcases (by omega : j = 0 ∨ j = 1 ∨ j = 2 ∨ j = 3) with rfl | rfl | rfl | rfl
    · rw [Nat.add_zero, ha0]; exact h.1 rfl
    · rw [ha1]; exact h.2.1 rfl
    · rw [ha2]; exact h.2.2.1 rfl
    · rw [ha3]; exact h.2.2.2 rfl
  clear h1 h2 h3 hj
  unfold decodeN
  repeat' split
  all_goals
    refine ⟨fun h => ?_, fun h => ⟨?_, ?_, cases4 _ ?_ fun j hjw => ⟨?_, ?_, ?_, ?_⟩⟩⟩
    all_goals first | omega | (simp only at *; omega)
/-- Rune by rune and byte by byte are the same. -/
theorem spans_bytes (s : ByteArray) : ∀ (m f g pos : Nat) (st : Option Nat) (acc : List (Nat × Nat)), s.size ≤ pos + m → s.size ≤ pos + f → s.size ≤ pos + g → spansFromP (fun r => r == 32) s f pos st acc = spB s g pos st acc
  | m, f, g, pos, st, acc, hm, hf, hg => by
    by_cases hlt : pos < s.size
    · obtain ⟨m, rfl⟩ : ∃ m', m = m' + 1 := ⟨m - 1, by omega⟩
      obtain ⟨f, rfl⟩ : ∃ f', f = f' + 1 := ⟨f - 1, by omega⟩
      obtain ⟨g, rfl⟩ : ∃ g', g = g' + 1 := ⟨g - 1, by omega⟩
      obtain ⟨d1, d2⟩ := dec_blank s pos hlt
      unfold spansFromP
      rw [if_pos hlt]
      by_cases hr : (Utf8.decode s pos).1 = 32
      · obtain ⟨e1, e2⟩ := d1 hr
        unfold spB
        rw [if_pos hlt, if_pos e2, if_pos (by simpa using hr), e1]
        cases st <;> exact spans_bytes s m f g _ _ _ (by omega) (by omega) (by omega)
      · obtain ⟨e1, e2, e3⟩ := d2 hr
        rw [if_neg (by simpa using hr)]
        have skip : ∀ (w : Nat) (h p : Nat) (a : Nat), p + w ≤ s.size → (∀ j, j < w → ¬ s.get! (p + j) = 32) → s.size ≤ p + h → spB s h p (some a) acc = spB s h (p + w) (some a) acc := by
          intro w
          induction w with
          | zero => intro h p a _ _ _; rfl
          | succ w ih =>
            intro h p a hp hj hh
            obtain ⟨h, rfl⟩ : ∃ h', h = h' + 1 := ⟨h - 1, by omega⟩
            have h4 : spB s (h + 1) p (some a) acc = spB s h (p + 1) (some a) acc := by
              conv => lhs; unfold spB
              rw [if_pos (by omega), if_neg (by have := hj 0 (by omega); simpa using this)]
            rw [h4, ih h (p + 1) a (by omega) (fun j hjw => by have := hj (j + 1) (by omega); rw [show p + 1 + j = p + (j + 1) by omega]; exact this) (by omega), show p + 1 + w = p + (w + 1) by omega]
            exact spB_fuel s _ _ _ _ _ (by omega) (by omega)
        have one : spB s (g + 1) pos st acc = spB s (g + 1) (pos + (Utf8.decode s pos).2) (some (st.getD pos)) acc := by
          have h4 : spB s (g + 1) pos st acc = spB s g (pos + 1) (some (st.getD pos)) acc := by
            conv => lhs; unfold spB
            rw [if_pos hlt, if_neg (by have := e3 0 (by omega); simpa using this)]
            cases st <;> rfl
          obtain ⟨w, hw⟩ : ∃ w, (Utf8.decode s pos).2 = w + 1 := ⟨(Utf8.decode s pos).2 - 1, by omega⟩
          rw [h4, skip w g (pos + 1) _ (by omega) (fun j hjw => by have := e3 (j + 1) (by omega); rw [show pos + 1 + j = pos + (j + 1) by omega]; exact this) (by omega), hw, show pos + 1 + w = pos + (w + 1) by omega]
          exact spB_fuel s _ _ _ _ _ (by omega) (by omega)
        rw [one]
        have ih := spans_bytes s m f (g + 1) (pos + (Utf8.decode s pos).2) (some (st.getD pos)) acc (by omega) (by omega) (by omega)
        rw [← ih]
        cases st <;> rfl
    · rw [spB_end s g pos st acc hlt, spansFromP_end _ s f pos st acc hlt]
end Go.Proofs.Ytfajbikgonlhfaa
