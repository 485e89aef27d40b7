/-
  The walk of all words: the program's words.
-/
import Derived.Test.YtfchbncknedeiaaDoorAllImpl
namespace Go.Proofs.YtfchbncknedeiaaDoor
open Go.RowKit

theorem own_not_iter {w : World} {lo n k : Nat} {e : TypeId} {size : Nat} {v : Value} {xs : List Value} {s : ByteArray} {p : Nat} (h : w.ownsRow lo e size v n xs) (hb : w.heap[k]? = some (.stringIter s p)) : v.ownBlock ≠ some k := by
  intro hv
  rcases h.2 with ⟨rfl, _⟩ | ⟨g, cap, cur, rfl, _, hg, _⟩
  · simp [Value.ownBlock] at hv
  · have : g = k := by simp [Value.ownBlock] at hv; omega
    subst this
    rw [hg] at hb
    cases hb
theorem own_iterAt {w : World} {lo n k : Nat} {e : TypeId} {size : Nat} {v : Value} {xs : List Value} {s : ByteArray} {p : Nat} (h : w.ownsRow lo e size v n xs) (hb : w.heap[k]? = some (.stringIter s p)) (q : Nat) : (w.iterAt k s q).ownsRow lo e size v n xs :=
  h.kept (row := some k) ⟨rfl, rfl, rfl, by rw [Lib.iterAt_size]; exact Nat.le_refl _, fun i _ hne => Lib.iterAt_other w k i s q (fun e => hne (by rw [e]))⟩ (.inr (own_not_iter h hb))
theorem heap_at_new (w : World) (o : Obj) (g : Nat) (h : g = w.heap.size) : (w.alloc o).heap[g]? = some o := by subst h; exact heap_alloc_new w o
theorem two_worlds' {a b c : World} (h : Below a.heap.size a b) (k : Below b.heap.size b c) : Below a.heap.size a c := h.trans (k.mono h.size)
theorem heap_alloc_old (w : World) (o : Obj) (i : Nat) (h : i < w.heap.size) : (w.alloc o).heap[i]? = w.heap[i]? := Below.heap_alloc w o i h
theorem news_oneS (w : World) (x : Value) (e : TypeId) : ∀ j u, [x][j]? = some u → (w.alloc (.cells #[x] e)).cell? ((⟨w.heap.size, 0, none⟩ : Addr).add j) = some u := by
  intro j u hj
  match j, hj with
  | 0, hj => simp at hj; subst hj; simp [Addr.add, go_sem]
theorem enc_letter {c : Nat} (h : c < 4) : Utf8.encode (((97 + c : Nat) : Nat) : Int) = ⟨[UInt8.ofNat (97 + c)].toArray⟩ := by
  have : c = 0 ∨ c = 1 ∨ c = 2 ∨ c = 3 := by omega
  rcases this with rfl | rfl | rfl | rfl <;> decide +kernel
/-- The letters of g signs as a text. -/
theorem letters_text {g : Nat} (h2 : 2 ≤ g) (h4 : g ≤ 4) : ∃ ls : ByteArray, (⟨#[97, 98, 99, 100]⟩ : ByteArray).extract 0 g = ls ∧ ls.size = g ∧ ∀ c (hc : c < ls.size), (ls[c]).toNat = 97 + c := by
  have : g = 2 ∨ g = 3 ∨ g = 4 := by omega
  rcases this with rfl | rfl | rfl
  · refine ⟨⟨#[97, 98]⟩, by decide +kernel, rfl, fun c hc => ?_⟩
    have : c = 0 ∨ c = 1 := by have : c < 2 := hc; omega
    rcases this with rfl | rfl <;> rfl
  · refine ⟨⟨#[97, 98, 99]⟩, by decide +kernel, rfl, fun c hc => ?_⟩
    have : c = 0 ∨ c = 1 ∨ c = 2 := by have : c < 3 := hc; omega
    rcases this with rfl | rfl | rfl <;> rfl
  · refine ⟨⟨#[97, 98, 99, 100]⟩, by decide +kernel, rfl, fun c hc => ?_⟩
    have : c = 0 ∨ c = 1 ∨ c = 2 ∨ c = 3 := by have : c < 4 := hc; omega
    rcases this with rfl | rfl | rfl | rfl <;> rfl
/-- A call hands back a slice of its own that holds these texts (there is one at least). -/
def GivesO (ss : List ByteArray) (n : Nat) (w : World) (e : Ending) (w' : World) : Prop :=
  ∃ g cap, e = .returned (.slice (some ⟨g, 0, none⟩) n cap) ∧ Below w.heap.size w w' ∧ w'.ownsRow w.heap.size 9 1 (.slice (some ⟨g, 0, none⟩) n cap) n (ss.map Value.string)
theorem own_lower {w : World} {lo lo' n : Nat} {e : TypeId} {size : Nat} {v : Value} {xs : List Value} (h : w.ownsRow lo e size v n xs) (hl : lo' ≤ lo) : w.ownsRow lo' e size v n xs := own_lo h hl
theorem strs_one (l : List UInt8) : ∀ u ∈ [Value.string ⟨l.toArray⟩], u.oneCell' = true := by intro u hu; simp at hu; subst hu; rfl
/-- The row of the words that were gathered, one longer. -/
theorem part_row {g k i c : Nat} (hg : g ≤ 4) (hc : c < g) : (bas (partW g k i c)).map Value.string ++ [Value.string ⟨((allW g k).getD i [] ++ [UInt8.ofNat (97 + c)]).toArray⟩] = (bas (partW g k i (c + 1))).map Value.string := by
  rw [partW_next hg hc]; simp [bas]

end Go.Proofs.YtfchbncknedeiaaDoor
