/-
  Plain facts on networks: when a tube fits, when a network is valid; how a slice of tubes reads in memory, and that it reads so as long as its block stands. Nothing of the program stands here.
-/
import Derived.Test.YtenjigifjkfiaaaBase
namespace Go.Proofs.Ytenjigifjkfiaaa
open Go.RowKit

abbrev T3 := Int × Int × Int
def stB (st k : Int) : Bool := decide (0 ≤ k ∧ k < st)
def tubeB (st : Int) (t : T3) : Bool := decide (0 ≤ t.1 ∧ t.1 < st ∧ 0 ≤ t.2.1 ∧ t.2.1 < st ∧ ¬ t.1 = t.2.1 ∧ 1 ≤ t.2.2 ∧ t.2.2 ≤ 2000)
def netB (st : Int) (ts : List T3) : Bool := decide (2 ≤ st ∧ st ≤ 10 ∧ ts.length ≤ 24) && ts.all (tubeB st)

theorem netB_few (st : Int) (ts : List T3) (h : st < 2) : netB st ts = false := by unfold netB; rw [decide_eq_false (by omega)]; rfl
theorem netB_many (st : Int) (ts : List T3) (h : 10 < st) : netB st ts = false := by unfold netB; rw [decide_eq_false (by omega)]; rfl
theorem netB_long (st : Int) (ts : List T3) (h : 24 < ts.length) : netB st ts = false := by unfold netB; rw [decide_eq_false (by omega)]; rfl
theorem netB_bad (st : Int) (ts : List T3) (k : Nat) (hk : k < ts.length) (h : tubeB st ts[k] = false) : netB st ts = false := by
  unfold netB
  have : ts.all (tubeB st) = false := by
    rw [List.all_eq_false]
    exact ⟨ts[k], List.getElem_mem hk, by simp [h]⟩
  rw [this]; simp
theorem netB_good (st : Int) (ts : List T3) (h1 : 2 ≤ st) (h2 : st ≤ 10) (h3 : ts.length ≤ 24) (h4 : ∀ k (hk : k < ts.length), tubeB st ts[k] = true) : netB st ts = true := by
  unfold netB
  have : ts.all (tubeB st) = true := by
    rw [List.all_eq_true]
    intro c hc
    obtain ⟨k, hk, rfl⟩ := List.getElem_of_mem hc
    exact h4 k hk
  rw [this, decide_eq_true (by omega)]; rfl
theorem netB_parts {st : Int} {ts : List T3} (h : netB st ts = true) : 2 ≤ st ∧ st ≤ 10 ∧ ts.length ≤ 24 ∧ ∀ t, t ∈ ts → tubeB st t = true := by
  unfold netB at h
  simp only [Bool.and_eq_true, decide_eq_true_eq, List.all_eq_true] at h
  exact ⟨h.1.1, h.1.2.1, h.1.2.2, h.2⟩

/-- A slice at address 'a' reads as the tubes 'ts'. -/
def RT (w : World) (a : Option Addr) (ts : List T3) : Prop :=
  ts = [] ∨ ∃ b off, a = some ⟨b, off, none⟩ ∧ ∀ i (h : i < ts.length), w.cell? ⟨b, off + i * 3, none⟩ = some (.int .i64 ts[i].1) ∧ w.cell? ⟨b, off + i * 3 + 1, none⟩ = some (.int .i64 ts[i].2.1) ∧ w.cell? ⟨b, off + i * 3 + 2, none⟩ = some (.int .i64 ts[i].2.2)
theorem RT.below {w w' : World} {a : Option Addr} {ts : List T3} (h : RT w a ts) (hb : Below w.heap.size w w') : RT w' a ts := by
  rcases h with h | ⟨b, off, ha, h⟩
  · exact .inl h
  · refine .inr ⟨b, off, ha, fun i hi => ?_⟩
    obtain ⟨h1, h2, h3⟩ := h i hi
    have hlt := World.block_lt_of_cell? w _ h1
    exact ⟨(hb.cell (p := ⟨b, off + i * 3, none⟩) hlt).trans h1, (hb.cell (p := ⟨b, off + i * 3 + 1, none⟩) hlt).trans h2, (hb.cell (p := ⟨b, off + i * 3 + 2, none⟩) hlt).trans h3⟩
theorem stB_parts {n : Nat} {x : Int} (h : stB n x = true) : 0 ≤ x ∧ x < n := by unfold stB at h; simpa using h
end Go.Proofs.Ytenjigifjkfiaaa
