/-
  Plain facts on rows of memory that hold tubes. Nothing of the program stands here.
-/
import Derived.Test.YtenjigifjkfiaaaNetMath
import Derived.Laws.AppendOwn
import Derived.Laws.Rows
namespace Go.Proofs.Ytenjigifjkfiaaa
open Go.RowKit

/-- The cells of tubes, one behind the other. -/
def flat (ts : List T3) : List Value := ts.flatMap fun t => [.int .i64 t.1, .int .i64 t.2.1, .int .i64 t.2.2]
theorem flat_length (ts : List T3) : (flat ts).length = ts.length * 3 := by
  induction ts with
  | nil => rfl
  | cons t ts ih => simp [flat] at ih ⊢; omega
theorem flat_get (ts : List T3) (i : Nat) (h : i < ts.length) : (flat ts)[i * 3]? = some (.int .i64 ts[i].1) ∧ (flat ts)[i * 3 + 1]? = some (.int .i64 ts[i].2.1) ∧ (flat ts)[i * 3 + 2]? = some (.int .i64 ts[i].2.2) := by
  induction ts generalizing i with
  | nil => simp at h
  | cons t ts ih =>
    have e : flat (t :: ts) = [Value.int .i64 t.1, .int .i64 t.2.1, .int .i64 t.2.2] ++ flat ts := rfl
    cases i with
    | zero => rw [e]; exact ⟨rfl, rfl, rfl⟩
    | succ i =>
      obtain ⟨h1, h2, h3⟩ := ih i (by simpa using h)
      rw [e]
      refine ⟨?_, ?_, ?_⟩
      · rw [List.getElem?_append_right (by simp; omega)]; simp only [List.length_cons, List.length_nil, List.getElem_cons_succ]; rw [← h1]; congr 1; omega
      · rw [List.getElem?_append_right (by simp; omega)]; simp only [List.length_cons, List.length_nil, List.getElem_cons_succ]; rw [← h2]; congr 1; omega
      · rw [List.getElem?_append_right (by simp; omega)]; simp only [List.length_cons, List.length_nil, List.getElem_cons_succ]; rw [← h3]; congr 1; omega
theorem flat_take (ts : List T3) (cs : List Value) (hl : ts.length * 3 ≤ cs.length) (h : ∀ i (h : i < ts.length), cs[i * 3]? = some (.int .i64 ts[i].1) ∧ cs[i * 3 + 1]? = some (.int .i64 ts[i].2.1) ∧ cs[i * 3 + 2]? = some (.int .i64 ts[i].2.2)) : cs.take (ts.length * 3) = flat ts := by
  apply List.ext_getElem?
  intro j
  by_cases hj : j < ts.length * 3
  · rw [List.getElem?_take_of_lt hj]
    obtain ⟨h1, h2, h3⟩ := h (j / 3) (by omega)
    obtain ⟨g1, g2, g3⟩ := flat_get ts (j / 3) (by omega)
    have : j = j / 3 * 3 ∨ j = j / 3 * 3 + 1 ∨ j = j / 3 * 3 + 2 := by omega
    rcases this with e | e | e
    · rw [e]; simpa using h1.trans g1.symm
    · rw [e]; exact h2.trans g2.symm
    · rw [e]; exact h3.trans g3.symm
  · rw [List.getElem?_eq_none (by simp; omega), List.getElem?_eq_none (by rw [flat_length]; omega)]
/-- A row of the call's own that holds tubes reads as them. -/
theorem own_RT {w : World} {lo : Nat} {e : TypeId} {v : Value} {ts : List T3} (h : w.ownsRow lo e 3 v ts.length (flat ts)) : ∃ a cap, v = .slice a ts.length cap ∧ RT w a ts := by
  have hcells := fun g hg => h.cells (g := g) hg
  rcases h.2 with ⟨rfl, hn⟩ | ⟨g, cap, cur, rfl, _⟩
  · exact ⟨none, 0, by rw [hn], .inl (List.eq_nil_of_length_eq_zero hn)⟩
  · refine ⟨_, cap, rfl, .inr ⟨g, 0, rfl, fun i hi => ?_⟩⟩
    obtain ⟨h1, h2, h3⟩ := flat_get ts i hi
    have k := hcells g rfl
    have e : ∀ j, (⟨g, 0, none⟩ : Addr).add j = ⟨g, j, none⟩ := fun j => by unfold Addr.add; split <;> simp_all
    refine ⟨?_, ?_, ?_⟩
    · have := k _ _ h1; rw [e] at this; simpa using this
    · have := k _ _ h2; rw [e] at this; simpa using this
    · have := k _ _ h3; rw [e] at this; simpa using this
end Go.Proofs.Ytenjigifjkfiaaa
