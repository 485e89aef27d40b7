/-
  The walks of the laws' own helpers that write marks into a slice of numbers and look for them again: markInt64S, heldInt64S.
-/
import Derived.Test.YtbndminegokffaaIntList
namespace Go.Proofs.Ytbndminegokffaa
open Go.RowKit

/-- A call marks a slice of numbers of its caller's own, and turns nothing else. -/
def MarksI (v : Value) (lo n : Nat) (k : Int) (w : World) (e : Ending) (w' : World) : Prop :=
  e = .returned (.int .i64 (k + (n : Int))) ∧ w.grownBy w' v.ownBlock ∧ w'.ownsRow lo 2 1 v n ((marksI k n).map (Value.int .i64))
theorem FilledI.stepM {ns : List Int} {cur : Array Value} {k : Nat} (h : FilledI ns cur k) (hs : k < cur.size) (hk : k < ns.length) : FilledI ns (cur.setIfInBounds k (.int .i64 ns[k])) (k + 1) := by
  intro i hi hik
  by_cases e : i = k
  · subst e
    simp [Array.getElem?_setIfInBounds]; omega
  · rw [Array.getElem?_setIfInBounds_ne (by omega)]
    exact h i hi (by omega)
theorem rowI_ownM {w : World} {lo g n c : Nat} {e : TypeId} {ns : List Int} {cur : Array Value} (hg : w.heap[g]? = some (.cells cur e (0, 0))) (hlo : lo ≤ g) (hnc : n ≤ c) (hm : c ≤ maxLen) (hs : cur.size = c * 1) (hl : ns.length = n) (h : FilledI ns cur n) :
    w.ownsRow lo e 1 (.slice (some ⟨g, 0, none⟩) n c) n (ns.map (Value.int .i64)) := by
  subst hl
  refine ⟨by simp, .inr ⟨g, c, cur, rfl, hlo, hg, hnc, hm, hs, ?_⟩⟩
  apply List.ext_getElem?
  intro j
  by_cases hj : j < ns.length
  · rw [List.getElem?_take_of_lt (by omega), ints_cell ns j hj]
    simpa using h j hj hj
  · rw [List.getElem?_eq_none (by simp; omega), List.getElem?_eq_none (by simp; omega)]

theorem own_RI {w : World} {lo n c : Nat} {a : Option Addr} {e : TypeId} {ns : List Int} (hn : Hid (ns.length = n)) (h : w.ownsRow lo e 1 (.slice a n c) n (ns.map (Value.int .i64))) : RI w a ns := by
  rcases h.2 with ⟨hv, hz⟩ | ⟨g, cap, cur, hv, _, hg, _, _, _, ht⟩
  · left
    exact List.eq_nil_of_length_eq_zero (by rw [hn.out]; exact hz)
  · injection hv with h1 h2 h3
    refine .inr ⟨g, 0, h1, fun i hi => ?_⟩
    have hc := cell_of_row w g (0 + i) cur e (0, 0) hg
    rw [hc]
    have h4 := ints_cell ns i hi
    rw [← ht, List.getElem?_take_of_lt (by rw [hn.out] at hi; omega)] at h4
    simpa using h4
/-- A function hands back a list in memory of its own, and a number. -/
def GivesL (r : List Int × Int) (w : World) (e : Ending) (w' : World) : Prop :=
  Below w.heap.size w w' ∧ ∃ ao cap, e = .returned (.tuple #[.slice ao r.1.length cap, .int .i64 r.2]) ∧ w'.ownsRow w.heap.size 2 1 (.slice ao r.1.length cap) r.1.length (r.1.map (Value.int .i64))
theorem GivesL.elim {ws : List Int} {rc : Int} {m : Nat} {w w' : World} {e : Ending} (hm : Hid (ws.length = m)) (h : GivesL (ws, rc) w e w') :
    ∃ ao cap, e = .returned (.tuple #[.slice ao m cap, .int .i64 rc]) ∧ Below w.heap.size w w' ∧ w'.ownsRow w.heap.size 2 1 (.slice ao m cap) m (ws.map (Value.int .i64)) := by
  have := hm.out
  subst this
  obtain ⟨h1, ao, cap, h2, h3⟩ := h
  exact ⟨ao, cap, h2, h1, h3⟩
theorem givesL_of {r : List Int × Int} {l : List Int} {c : Int} {w w' : World} {ao : Option Addr} {cap i : Nat} (h : r = (l, c)) (hb : Below w.heap.size w w') (hl : l.length = i) (ho : w'.ownsRow w.heap.size 2 1 (.slice ao i cap) i (l.map (Value.int .i64))) :
    GivesL r w (.returned (.tuple #[.slice ao i cap, .int .i64 c])) w' := by
  subst hl; subst h
  exact ⟨hb, ao, cap, rfl, ho⟩
theorem givesL_nil {r : List Int × Int} {c : Int} {w w' : World} (h : r = ([], c)) (hb : Below w.heap.size w w') : GivesL r w (.returned (.tuple #[.slice none 0 0, .int .i64 c])) w' :=
  givesL_of h hb rfl (World.ownsRow_nil _ _ _ _)
end Go.Proofs.Ytbndminegokffaa
