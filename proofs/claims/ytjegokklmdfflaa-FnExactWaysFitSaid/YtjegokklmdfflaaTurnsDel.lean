/-
  The walks of slices.DeleteFunc at needs, turnsFor, l04Turns.
-/
import Derived.Test.YtjegokklmdfflaaTurns
namespace Go.Proofs.Ytjegokklmdfflaa
open Go.RowKit Go.Shelf Go.Sort

/-- 'clear(s)', s a slice of n > 0 elements of two cells each: 2n cells turn, and nothing else. -/
theorem run_clear_two {P : Program} (w : World) (t e ty : TypeId) (ht : P.underlying t = some (.slice e)) (hv : ∀ w, (zeroValue e).run P w = .ok (.agg #[.int .i64 0, .int .i64 0]) w) (b o n c : Nat) (hn : 0 < n)
    (hc : ∀ j, j < n * 2 → (w.cell? ⟨b, o + j, none⟩).isSome = true) (hf : ∀ j, j < n * 2 → w.frozen? ⟨b, o + j, none⟩ = false) :
    ∃ vs, ∀ ty', ty' = ty → (Builtin.clear_ #[t] ty' #[.slice (some ⟨b, o, none⟩) n c]).run P w = .ok (.tuple #[]) (w.setCells b o vs) := by
  have hz : (Value.agg #[.int .i64 0, .int .i64 0]).cells = #[.int .i64 0, .int .i64 0] := rfl
  have hlen : (Builtin.zeroCells #[.int .i64 0, .int .i64 0] n).toList.length = n * 2 := by simp [Builtin.zeroCells]
  have hone : ∀ v ∈ (Builtin.zeroCells #[.int .i64 0, .int .i64 0] n).toList, v.oneCell' = true := by
    intro v hv
    simp only [Builtin.zeroCells, Array.toList_map, List.mem_map] at hv
    obtain ⟨i, _, rfl⟩ := hv
    have : i % 2 = 0 ∨ i % 2 = 1 := by omega
    rcases this with h | h
    · show (#[Value.int .i64 0, Value.int .i64 0][i % 2]!).oneCell' = true
      rw [h]; rfl
    · show (#[Value.int .i64 0, Value.int .i64 0][i % 2]!).oneCell' = true
      rw [h]; rfl
  have hst := run_storeCells_cells (P := P) b o (Builtin.zeroCells #[.int .i64 0, .int .i64 0] n).toList 0 w (by rw [hlen]; simpa using hc) (by rw [hlen]; simpa using hf) hone
  simp only [Nat.add_zero] at hst
  obtain ⟨m, rfl⟩ : ∃ m, n = m + 1 := ⟨n - 1, by omega⟩
  exact ⟨(Builtin.zeroCells #[.int .i64 0, .int .i64 0] (m + 1)).toList, fun ty' _ => by simp [Builtin.clear_, run_underlying ht, hv, hz, hst]⟩
theorem below_setCells {B g : Nat} {a : World} (hg : B ≤ g) : ∀ (vs : List Value) (o : Nat) (w : World), Below B a w → Below B a (w.setCells g o vs)
  | [], _, _, h => h
  | v :: r, o, w, h => by
    rw [World.setCells]
    exact below_setCells hg r (o + 1) _ (h.setCell hg _)

/-- A call hands back a slice of so many elements. -/
def LenGive (n lo : Nat) (w : World) (e : Ending) (w' : World) : Prop := Below lo w w' ∧ ∃ ao cap, e = .returned (.slice ao n cap)

theorem lenGive_of {n i lo : Nat} {w w' : World} {ao : Option Addr} {cap : Nat} (h : n = i) (hb : Below lo w w') : LenGive n lo w (.returned (.slice ao i cap)) w' := by subst h; exact ⟨hb, ao, cap, rfl⟩
theorem leftN_step {set : List Int} {l : List (Int × Int)} {j : Nat} (hj : j < l.length) : leftN set (l.take (j + 1)) = leftN set (l.take j) + (if metB set l[j] = true then 0 else 1) := by
  unfold leftN
  rw [List.take_succ_eq_append_getElem hj, List.countP_append]
  cases h : metB set l[j] <;> simp [h]
theorem leftN_none {set : List Int} {l : List (Int × Int)} (h : ∀ j (hj : j < l.length), metB set l[j] = false) : leftN set l = l.length := by
  unfold leftN
  rw [List.countP_eq_length]
  intro x hx
  obtain ⟨j, hj, rfl⟩ := List.getElem_of_mem hx
  simp [h j hj]

end Go.Proofs.Ytjegokklmdfflaa
