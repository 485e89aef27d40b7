/-
  The walks of AllWords: the model's and the program's both hand back 'ansAll'.
-/
import Derived.Test.YtfchbncknedeiaaDoorAllSpec
namespace Go.Proofs.YtfchbncknedeiaaDoor
open Go.RowKit

/-- A function hands back a list of texts in memory of its own, and a number. -/
def GivesLS (r : List ByteArray × Int) (w : World) (e : Ending) (w' : World) : Prop :=
  Below w.heap.size w w' ∧ ∃ ao cap, e = .returned (.tuple #[.slice ao r.1.length cap, .int .i64 r.2]) ∧ w'.ownsRow w.heap.size 9 1 (.slice ao r.1.length cap) r.1.length (r.1.map Value.string)
theorem GivesLS.elim {ws : List ByteArray} {rc : Int} {m : Nat} {w w' : World} {e : Ending} (hm : Hid (ws.length = m)) (h : GivesLS (ws, rc) w e w') :
    ∃ ao cap, e = .returned (.tuple #[.slice ao m cap, .int .i64 rc]) ∧ Below w.heap.size w w' ∧ w'.ownsRow w.heap.size 9 1 (.slice ao m cap) m (ws.map Value.string) := by
  have := hm.out
  subst this
  obtain ⟨h1, ao, cap, h2, h3⟩ := h
  exact ⟨ao, cap, h2, h1, h3⟩
theorem givesLS_of {r : List ByteArray × Int} {l : List ByteArray} {c : Int} {w w' : World} {ao : Option Addr} {cap i : Nat} (h : r = (l, c)) (hb : Below w.heap.size w w') (hl : l.length = i) (ho : w'.ownsRow w.heap.size 9 1 (.slice ao i cap) i (l.map Value.string)) :
    GivesLS r w (.returned (.tuple #[.slice ao i cap, .int .i64 c])) w' := by
  subst hl; subst h
  exact ⟨hb, ao, cap, rfl, ho⟩
theorem givesLS_nil {r : List ByteArray × Int} {c : Int} {w w' : World} (h : r = ([], c)) (hb : Below w.heap.size w w') : GivesLS r w (.returned (.tuple #[.slice none 0 0, .int .i64 c])) w' :=
  givesLS_of h hb rfl (World.ownsRow_nil _ _ _ _)
def ansAll (g r : Int) : List ByteArray × Int := if codeW g r 1 300 = 0 then (bas (allW g.toNat r.toNat), 0) else ([], codeW g r 1 300)
theorem codeW_parts {g r d most : Int} (h : codeW g r d most = 0) : (2 ≤ g ∧ g ≤ 4 ∧ 1 ≤ r ∧ r ≤ 8 ∧ 1 ≤ d ∧ d ≤ r) ∧ ((g.toNat ^ r.toNat : Nat) : Int) ≤ most := by
  unfold codeW at h
  split at h
  · rename_i h1
    split at h
    · cases h
    · exact ⟨h1, by omega⟩
  · cases h
theorem ansAll_len (g r : Int) : (ansAll g r).1.length ≤ 1048576 := by
  unfold ansAll
  split
  · rename_i h
    obtain ⟨h1, h2⟩ := codeW_parts h
    rw [bas_length, allW_length (by omega)]
    omega
  · simp
theorem ne0_ways (a : Int) : ((a != 0) = false ∧ a = 0) ∨ ((a != 0) = true ∧ ¬ a = 0) := by
  by_cases h : a = 0
  · exact .inl ⟨by simp [h], h⟩
  · exact .inr ⟨by simp [h], h⟩

end Go.Proofs.YtfchbncknedeiaaDoor
