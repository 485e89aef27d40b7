/-
  Words, their distances, addresses, the least distance of several: plain functions on lists of bytes. Nothing of the program stands here.
-/
import Derived.Test.YtpkkibnpjhlfmaaDoorBase
import Derived.Lib.SlTrimSet
namespace Go.Proofs.YtpkkibnpjhlfmaaDoor
open Go.RowKit

/-- At how many of the first k places two lists differ. -/
def farN (x y : List UInt8) : Nat → Nat
  | 0 => 0
  | k + 1 => farN x y k + (if x.getD k 0 = y.getD k 0 then 0 else 1)
def farL (x y : List UInt8) : Nat := farN x y x.length
theorem farN_le (x y : List UInt8) (k : Nat) : farN x y k ≤ k := by
  induction k with
  | zero => exact Nat.le_refl _
  | succ k ih => unfold farN; split <;> omega
theorem farN_symm (x y : List UInt8) (k : Nat) : farN x y k = farN y x k := by
  induction k with
  | zero => rfl
  | succ k ih =>
    unfold farN
    rw [ih]
    by_cases h : x.getD k 0 = y.getD k 0
    · rw [if_pos h, if_pos h.symm]
    · rw [if_neg h, if_neg (fun e => h e.symm)]
theorem farL_le (x y : List UInt8) : farL x y ≤ x.length := farN_le _ _ _
theorem farL_symm {x y : List UInt8} (h : x.length = y.length) : farL x y = farL y x := by unfold farL; rw [h, farN_symm]
theorem farN_same (x y : List UInt8) (k : Nat) (h : x.getD k 0 = y.getD k 0) : farN x y (k + 1) = farN x y k := by simp only [farN]; rw [if_pos h]; omega
theorem farN_more (x y : List UInt8) (k : Nat) (h : ¬ x.getD k 0 = y.getD k 0) : farN x y (k + 1) = farN x y k + 1 := by simp only [farN]; rw [if_neg h]
theorem farN_pos {x y : List UInt8} {n k : Nat} (hk : k < n) (h : ¬ x.getD k 0 = y.getD k 0) : 0 < farN x y n := by
  induction n with
  | zero => omega
  | succ n ih =>
    by_cases e : k = n
    · subst e; rw [farN_more _ _ _ h]; omega
    · have := ih (by omega)
      simp only [farN]; omega
theorem farL_ne {x y : List UInt8} (hl : x.length = y.length) (h : x ≠ y) : 0 < farL x y := by
  have : ∃ k, k < x.length ∧ ¬ x.getD k 0 = y.getD k 0 := by
    apply Classical.byContradiction
    intro hn
    apply h
    apply List.ext_getElem hl
    intro i h1 h2
    apply Classical.byContradiction
    intro h3
    exact hn ⟨i, h1, by simpa [List.getD_eq_getElem?_getD, List.getElem?_eq_getElem h1, List.getElem?_eq_getElem h2] using h3⟩
  obtain ⟨k, hk, h⟩ := this
  exact farN_pos hk h
theorem farN_zero_of {x : List UInt8} (k : Nat) : farN x x k = 0 := by
  induction k with
  | zero => rfl
  | succ k ih => rw [farN_same _ _ _ rfl, ih]

/-- The bytes of a text. -/
abbrev bl (s : ByteArray) : List UInt8 := s.data.toList
theorem bl_length (s : ByteArray) : (bl s).length = s.size := by simp [bl]
theorem bl_inj {a b : ByteArray} (h : bl a = bl b) : a = b := ByteArray.ext (Array.toList_inj.1 h)
theorem bl_getD (s : ByteArray) (k : Nat) (h : k < s.size) : (bl s).getD k 0 = s[k] := by
  rw [List.getD_eq_getElem?_getD, List.getElem?_eq_getElem (by simpa using h)]; rfl
theorem bl_get (s : ByteArray) (k : Nat) (h : k < (bl s).length) : (bl s)[k] = s[k]'(by simpa using h) := rfl

/-- A word of g signs: 1 to 8 of the letters from 97 on. -/
def WordP (g : Nat) (l : List UInt8) : Prop := 1 ≤ l.length ∧ l.length ≤ 8 ∧ ∀ b ∈ l, 97 ≤ b.toNat ∧ b.toNat < 97 + g
instance (g : Nat) (l : List UInt8) : Decidable (WordP g l) := by unfold WordP; infer_instance
def wordB (g : Nat) (l : List UInt8) : Bool := decide (WordP g l)
theorem wordB_yes {g : Nat} {l : List UInt8} (h : WordP g l) : wordB g l = true := decide_eq_true h
theorem wordB_no {g : Nat} {l : List UInt8} (h : ¬ WordP g l) : wordB g l = false := decide_eq_false h
theorem wordB_iff {g : Nat} {l : List UInt8} : wordB g l = true ↔ WordP g l := decide_eq_true_iff

/-- Addresses: at most 40 different words of g signs, of one length. -/
def OkA (g : Int) (ws : List (List UInt8)) : Prop :=
  (2 ≤ g ∧ g ≤ 4 ∧ ws.length ≤ 40) ∧ ∀ i, i < ws.length → wordB g.toNat (ws.getD i []) = true ∧ (ws.getD i []).length = (ws.getD 0 []).length ∧ ∀ k, k < i → ws.getD k [] ≠ ws.getD i []
instance (g : Int) (ws : List (List UInt8)) : Decidable (OkA g ws) := by unfold OkA; infer_instance
def okB (g : Int) (ws : List (List UInt8)) : Bool := decide (OkA g ws)
theorem okB_yes {g : Int} {ws : List (List UInt8)} (h : OkA g ws) : okB g ws = true := decide_eq_true h
theorem okB_no {g : Int} {ws : List (List UInt8)} (h : ¬ OkA g ws) : okB g ws = false := decide_eq_false h

/-- The bytes of several texts. -/
abbrev bls (ss : List ByteArray) : List (List UInt8) := ss.map bl
theorem bls_length (ss : List ByteArray) : (bls ss).length = ss.length := by simp [bls]
theorem bls_get (ss : List ByteArray) (i : Nat) (h : i < ss.length) : (bls ss).getD i [] = bl ss[i] := by
  rw [List.getD_eq_getElem?_getD, List.getElem?_map, List.getElem?_eq_getElem h]; rfl

/-- Some two of them have the distance m. -/
def HasPair (ws : List (List UInt8)) (m : Nat) : Prop := ∃ i, i < ws.length ∧ ∃ k, k < i ∧ farL (ws.getD i []) (ws.getD k []) = m
instance (ws : List (List UInt8)) (m : Nat) : Decidable (HasPair ws m) := by unfold HasPair; infer_instance
/-- The least distance of two of them, 8 at most. -/
def leastD (ws : List (List UInt8)) : Nat := ((List.range 9).find? fun m => decide (HasPair ws m)).getD 8
theorem leastD_of {ws : List (List UInt8)} {m : Nat} (h8 : m ≤ 8) (h1 : HasPair ws m) (h2 : ∀ i, i < ws.length → ∀ k, k < i → m ≤ farL (ws.getD i []) (ws.getD k [])) : leastD ws = m := by
  unfold leastD
  rw [(List.find?_range_eq_some).2 ⟨by simpa using h1, by simp; omega, fun j hj => ?_⟩]
  · rfl
  · simp only [Bool.not_eq_true', decide_eq_false_iff_not]
    rintro ⟨i, hi, k, hk, e⟩
    have := h2 i hi k hk
    omega

theorem OkA.word {g : Int} {ws : List (List UInt8)} (h : OkA g ws) (i : Nat) (hi : i < ws.length) : WordP g.toNat (ws.getD i []) := wordB_iff.1 (h.2 i hi).1
theorem OkA.len {g : Int} {ws : List (List UInt8)} (h : OkA g ws) (i : Nat) (hi : i < ws.length) : (ws.getD i []).length = (ws.getD 0 []).length := (h.2 i hi).2.1

/-- The letters of the words of g signs. -/
def lettersL (g : Nat) : List UInt8 := [97, 98, 99, 100].take g
theorem lettersL_mem {g : Nat} (h2 : 2 ≤ g) (h4 : g ≤ 4) (b : UInt8) : (lettersL g).contains b = true ↔ 97 ≤ b.toNat ∧ b.toNat < 97 + g := by
  have : g = 2 ∨ g = 3 ∨ g = 4 := by omega
  have key : ∀ n : Nat, n < 256 → ∀ g, g = 2 ∨ g = 3 ∨ g = 4 → ((lettersL g).contains (UInt8.ofNat n) = true ↔ 97 ≤ n ∧ n < 97 + g) := by
    intro n hn g hg
    rcases hg with rfl | rfl | rfl <;> revert n <;> decide +kernel
  have := key b.toNat b.toNat_lt g this
  rwa [UInt8.ofNat_toNat] at this
theorem dropWhile_nil {p : UInt8 → Bool} : ∀ {l : List UInt8}, l.dropWhile p = [] ↔ ∀ b ∈ l, p b = true
  | [] => by simp
  | a :: l => by
    rw [List.dropWhile_cons]
    split
    · rename_i h
      rw [dropWhile_nil]
      simp [h]
    · rename_i h
      simp [h]
theorem dropWhile_all {p : UInt8 → Bool} : ∀ {l : List UInt8}, (∀ b ∈ l.dropWhile p, p b = true) → l.dropWhile p = []
  | [], _ => rfl
  | a :: l, h => by
    rw [List.dropWhile_cons] at h ⊢
    split at h
    · rename_i h1
      rw [if_pos h1]
      exact dropWhile_all h
    · rename_i h1
      exact absurd (h a (by simp)) h1
theorem trimS_nil {l cs : List UInt8} : Lib.trimS l cs = [] ↔ ∀ b ∈ l, cs.contains b = true := by
  unfold Lib.trimS Lib.trimRightS Lib.trimLeftS
  constructor
  · intro h b hb
    have h1 := dropWhile_nil.1 h
    have h2 := dropWhile_all (p := (cs.contains ·)) (l := l.reverse) (fun b hb => h1 b (by simpa using hb))
    exact dropWhile_nil.1 h2 b (by simpa using hb)
  · intro h
    have h2 : l.reverse.dropWhile (cs.contains ·) = [] := dropWhile_nil.2 (fun b hb => h b (by simpa using hb))
    rw [h2]
    rfl
end Go.Proofs.YtpkkibnpjhlfmaaDoor
