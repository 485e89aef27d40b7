/-
  All words of some signs and rings, one letter after the other: plain functions on lists.
-/
import Derived.Test.YtpkkibnpjhlfmaaDoorAdrMath
namespace Go.Proofs.YtpkkibnpjhlfmaaDoor
open Go.RowKit

theorem lettersL_length {g : Nat} (h : g ≤ 4) : (lettersL g).length = g := by simp [lettersL]; omega
/-- A word with one more letter. -/
def extW (g : Nat) (l : List UInt8) : List (List UInt8) := (lettersL g).map fun c => l ++ [c]
theorem extW_length {g : Nat} (h : g ≤ 4) (l : List UInt8) : (extW g l).length = g := by simp [extW, lettersL_length h]
def allW (g : Nat) : Nat → List (List UInt8)
  | 0 => [[]]
  | k + 1 => (allW g k).flatMap (extW g)
theorem flatMap_length_const {α β : Type} {f : α → List β} {n : Nat} (h : ∀ a, (f a).length = n) (l : List α) : (l.flatMap f).length = l.length * n := by
  induction l with
  | nil => simp
  | cons a l ih => simp only [List.flatMap_cons, List.length_append, ih, h, List.length_cons, Nat.succ_mul]; omega
theorem allW_length {g : Nat} (h : g ≤ 4) (k : Nat) : (allW g k).length = g ^ k := by
  induction k with
  | zero => rfl
  | succ k ih => unfold allW; rw [flatMap_length_const (extW_length h), ih, Nat.pow_succ]
theorem allW_each {g : Nat} (k : Nat) : ∀ l ∈ allW g k, l.length = k := by
  induction k with
  | zero => intro l hl; simp [allW] at hl; subst hl; rfl
  | succ k ih =>
    intro l hl
    unfold allW at hl
    obtain ⟨a, ha, hb⟩ := List.mem_flatMap.1 hl
    unfold extW at hb
    obtain ⟨c, _, rfl⟩ := List.mem_map.1 hb
    simp [ih a ha]
theorem allW_letters {g : Nat} (k : Nat) : ∀ l ∈ allW g k, ∀ b ∈ l, b ∈ lettersL g := by
  induction k with
  | zero => intro l hl; simp [allW] at hl; subst hl; simp
  | succ k ih =>
    intro l hl
    unfold allW at hl
    obtain ⟨a, ha, hb⟩ := List.mem_flatMap.1 hl
    unfold extW at hb
    obtain ⟨c, hc, rfl⟩ := List.mem_map.1 hb
    intro b hbb
    rcases List.mem_append.1 hbb with h | h
    · exact ih a ha b h
    · simp at h; subst h; exact hc
/-- What has been gathered of the next longer words: those of the first i words, and c letters behind the word i. -/
def partW (g k i c : Nat) : List (List UInt8) := ((allW g k).take i).flatMap (extW g) ++ (extW g ((allW g k).getD i [])).take c
theorem partW_zero (g k : Nat) : partW g k 0 0 = [] := by simp [partW]
theorem partW_end (g k n : Nat) (h : (allW g k).length = n) : partW g k n 0 = allW g (k + 1) := by
  subst h
  simp [partW, allW]
theorem partW_next {g k i c : Nat} (hg : g ≤ 4) (hc : c < g) : partW g k i (c + 1) = partW g k i c ++ [((allW g k).getD i []) ++ [UInt8.ofNat (97 + c)]] := by
  unfold partW
  rw [List.append_assoc]
  congr 1
  have hl : c < (extW g ((allW g k).getD i [])).length := by rw [extW_length hg]; exact hc
  rw [List.take_add_one, List.getElem?_eq_getElem hl]
  congr 1
  have : g = 0 ∨ g = 1 ∨ g = 2 ∨ g = 3 ∨ g = 4 := by omega
  have h2 : c = 0 ∨ c = 1 ∨ c = 2 ∨ c = 3 := by omega
  simp only [extW, List.getElem_map, Option.toList]
  congr 3
  rcases this with rfl | rfl | rfl | rfl | rfl <;> rcases h2 with rfl | rfl | rfl | rfl <;> first | omega | rfl
theorem partW_row {g k i : Nat} (hg : g ≤ 4) (hi : i < (allW g k).length) : partW g k i g = partW g k (i + 1) 0 := by
  unfold partW
  have e : (extW g ((allW g k).getD i [])).take g = extW g ((allW g k).getD i []) := List.take_of_length_le (by rw [extW_length hg]; exact Nat.le_refl _)
  rw [e, List.take_add_one, List.flatMap_append, List.getElem?_eq_getElem hi, List.getD_eq_getElem?_getD, List.getElem?_eq_getElem hi]
  simp
theorem partW_length {g k i c : Nat} (hg : g ≤ 4) (hi : i ≤ (allW g k).length) (hc : c ≤ g) : (partW g k i c).length = i * g + c := by
  unfold partW
  rw [List.length_append, flatMap_length_const (extW_length hg), List.length_take, List.length_take, extW_length hg, Nat.min_eq_left hi, Nat.min_eq_left hc]
/-- The texts of lists of bytes. -/
abbrev bas (xs : List (List UInt8)) : List ByteArray := xs.map fun l => ⟨l.toArray⟩
theorem bas_length (xs : List (List UInt8)) : (bas xs).length = xs.length := by simp [bas]
theorem bas_get (xs : List (List UInt8)) (i : Nat) (h : i < xs.length) : (bas xs)[i]'(by simpa using h) = ⟨(xs.getD i []).toArray⟩ := by
  simp [bas, List.getD_eq_getElem?_getD, List.getElem?_eq_getElem h]
/-- The code of a kind of words, of which there must be at most so many. -/
def codeW (g r d most : Int) : Int := if 2 ≤ g ∧ g ≤ 4 ∧ 1 ≤ r ∧ r ≤ 8 ∧ 1 ≤ d ∧ d ≤ r then (if most < ((g.toNat ^ r.toNat : Nat) : Int) then 5 else 0) else 2
theorem pow_le {g r : Nat} (hg : g ≤ 4) (hr : r ≤ 8) : g ^ r ≤ 65536 := by
  have h1 : g ^ r ≤ 4 ^ r := Nat.pow_le_pow_left hg r
  have h2 : 4 ^ r ≤ 4 ^ 8 := Nat.pow_le_pow_right (by omega) hr
  omega
theorem pow_mono {g a b : Nat} (hg : 1 ≤ g) (h : a ≤ b) : g ^ a ≤ g ^ b := Nat.pow_le_pow_right hg h
theorem pow_succ_cast (g k : Nat) : (((g ^ k : Nat) : Int)) * (g : Int) = ((g ^ (k + 1) : Nat) : Int) := by rw [Nat.pow_succ]; push_cast; rfl
end Go.Proofs.YtpkkibnpjhlfmaaDoor
