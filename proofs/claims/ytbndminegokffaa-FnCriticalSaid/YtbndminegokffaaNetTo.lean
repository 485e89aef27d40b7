/-
  The walks of the laws' own helpers that build and measure networks: eqNet, szTubeS, szNet, toTube, toTubeS, toNet.
-/
import Derived.Test.YtbndminegokffaaNetEq
import Derived.Laws.MakeOwn
import Derived.OneCell
import Derived.Test.YtbndminegokffaaNetMem
namespace Go.Proofs.Ytbndminegokffaa
open Go.RowKit

theorem info36 : (Try.prog.info? 36).map (fun i => (i.zero, i.size, i.bytes)) = some (some (.agg #[.int .i64 0, .int .i64 0, .int .i64 0]), 3, 24) := by kernel_rfl

theorem row_own {w : World} {lo g : Nat} {e : TypeId} {ts : List T3} {cur : Array Value} (hg : w.heap[g]? = some (.cells cur e (0, 0))) (hlo : lo ≤ g) (hm : ts.length ≤ maxLen) (hs : cur.size = ts.length * 3)
    (h : ∀ i (h : i < ts.length), cur[i * 3]? = some (.int .i64 ts[i].1) ∧ cur[i * 3 + 1]? = some (.int .i64 ts[i].2.1) ∧ cur[i * 3 + 2]? = some (.int .i64 ts[i].2.2)) :
    w.ownsRow lo e 3 (.slice (some ⟨g, 0, none⟩) ts.length ts.length) ts.length (flat ts) :=
  ⟨flat_length ts, .inr ⟨g, ts.length, cur, rfl, hlo, hg, Nat.le_refl _, hm, hs, flat_take ts cur.toList (by simp; omega) (fun i hi => by simpa using h i hi)⟩⟩

/-- A call hands back a slice of its own that holds these tubes; nothing that was there has turned. -/
def GivesTubes (ts : List T3) (n : Nat) (w : World) (e : Ending) (w' : World) : Prop :=
  ∃ g, e = .returned (.slice (some ⟨g, 0, none⟩) n n) ∧ w.heap.size ≤ g ∧ Below w.heap.size w w' ∧ w'.ownsRow w.heap.size 36 3 (.slice (some ⟨g, 0, none⟩) n n) n (flat ts)
/-- A call hands back a network of its own that holds these tubes; nothing that was there has turned. -/
def GivesNet (s : Int) (ts : List T3) (n : Nat) (w : World) (e : Ending) (w' : World) : Prop :=
  ∃ g, e = .returned (.agg #[.int .i64 s, .slice (some ⟨g, 0, none⟩) n n]) ∧ w.heap.size ≤ g ∧ Below w.heap.size w w' ∧ w'.ownsRow w.heap.size 36 3 (.slice (some ⟨g, 0, none⟩) n n) n (flat ts)
theorem row_RT {w : World} {lo g n c : Nat} {e : TypeId} {ts : List T3} (hn : Hid (ts.length = n)) (h : w.ownsRow lo e 3 (.slice (some ⟨g, 0, none⟩) n c) n (flat ts)) : RT w (some ⟨g, 0, none⟩) ts := by
  have := hn.out
  subst this
  obtain ⟨a, cap, hv, hr⟩ := own_RT h
  injection hv with h1 h2 h3
  rw [h1]
  exact hr

def Filled (ts : List T3) (cur : Array Value) (k : Nat) : Prop := ∀ i (h : i < ts.length), i < k → cur[i * 3]? = some (.int .i64 ts[i].1) ∧ cur[i * 3 + 1]? = some (.int .i64 ts[i].2.1) ∧ cur[i * 3 + 2]? = some (.int .i64 ts[i].2.2)
theorem Filled.zero (ts : List T3) (cur : Array Value) : Filled ts cur 0 := fun _ _ h => by omega
theorem Filled.step {ts : List T3} {cur : Array Value} {k : Nat} (h : Filled ts cur k) (hs : cur.size = ts.length * 3) (hk : k < ts.length) :
    Filled ts (((cur.setIfInBounds (k * 3) (.int .i64 ts[k].1)).setIfInBounds (k * 3 + 1) (.int .i64 ts[k].2.1)).setIfInBounds (k * 3 + 2) (.int .i64 ts[k].2.2)) (k + 1) := by
  intro i hi hik
  by_cases e : i = k
  · subst e
    refine ⟨?_, ?_, ?_⟩
    all_goals simp [Array.getElem?_setIfInBounds]; omega
  · obtain ⟨h1, h2, h3⟩ := h i hi (by omega)
    refine ⟨?_, ?_, ?_⟩
    · rw [Array.getElem?_setIfInBounds_ne (by omega), Array.getElem?_setIfInBounds_ne (by omega), Array.getElem?_setIfInBounds_ne (by omega)]; exact h1
    · rw [Array.getElem?_setIfInBounds_ne (by omega), Array.getElem?_setIfInBounds_ne (by omega), Array.getElem?_setIfInBounds_ne (by omega)]; exact h2
    · rw [Array.getElem?_setIfInBounds_ne (by omega), Array.getElem?_setIfInBounds_ne (by omega), Array.getElem?_setIfInBounds_ne (by omega)]; exact h3

theorem gives_of {ts : List T3} {n g : Nat} {w w' : World} {e : Ending} {cur : Array Value} (hn : ts.length = n) (he : e = .returned (.slice (some ⟨g, 0, none⟩) n n)) (hg : w.heap.size ≤ g) (hb : Below w.heap.size w w')
    (hh : w'.heap[g]? = some (.cells cur 36 (0, 0))) (hs : cur.size = n * 3) (hm : ts.length ≤ 1048576)
    (h : ∀ i (h : i < ts.length), cur[i * 3]? = some (.int .i64 ts[i].1) ∧ cur[i * 3 + 1]? = some (.int .i64 ts[i].2.1) ∧ cur[i * 3 + 2]? = some (.int .i64 ts[i].2.2)) : GivesTubes ts n w e w' := by
  subst hn
  exact ⟨g, he, hg, hb, row_own hh hg (by unfold maxLen; omega) hs h⟩
theorem three_cells {w : World} {g : Nat} {cur : Array Value} {e : TypeId} (h : w.heap[g]? = some (.cells cur e (0, 0))) (k : Nat) (hk : k * 3 + 2 < cur.size) :
    (∃ v, w.cell? ⟨g, k * 3, none⟩ = some v) ∧ (∃ v, w.cell? ⟨g, k * 3 + 1, none⟩ = some v) ∧ (∃ v, w.cell? ⟨g, k * 3 + 2, none⟩ = some v) ∧ w.frozen? ⟨g, k * 3, none⟩ = false ∧ w.frozen? ⟨g, k * 3 + 1, none⟩ = false ∧ w.frozen? ⟨g, k * 3 + 2, none⟩ = false := by
  refine ⟨⟨cur[k * 3], ?_⟩, ⟨cur[k * 3 + 1], ?_⟩, ⟨cur[k * 3 + 2], ?_⟩, ?_, ?_, ?_⟩
  · rw [cell_of_row w g _ cur e (0, 0) h]; exact Array.getElem?_eq_getElem _
  · rw [cell_of_row w g _ cur e (0, 0) h]; exact Array.getElem?_eq_getElem _
  · rw [cell_of_row w g _ cur e (0, 0) h]; exact Array.getElem?_eq_getElem _
  all_goals exact frozen_of_row w g _ cur e h
end Go.Proofs.Ytbndminegokffaa
