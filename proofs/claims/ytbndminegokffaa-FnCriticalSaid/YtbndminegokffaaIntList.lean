/-
  The walks of the laws' own helpers on slices of numbers: eqInt64S, toInt64S, markInt64S, heldInt64S.
-/
import Derived.Test.YtbndminegokffaaProg
import Derived.Test.YtbndminegokffaaMem
import Derived.Outline
import Derived.LoopTactic
import Derived.BigQuiet
import Derived.Deep.QuietTactic
import Derived.Deep.RegionHeld3
namespace Go.Proofs.Ytbndminegokffaa
open Go.RowKit

theorem ints_ext (ts us : List Int) (hl : ts.length = us.length) (h : ∀ i (h1 : i < ts.length) (h2 : i < us.length), ts[i] = us[i]) : (ts == us) = true := by
  rw [beq_iff_eq]
  exact List.ext_getElem hl fun i h1 h2 => h i h1 h2
theorem ints_bad (ts us : List Int) (i : Nat) (h1 : i < ts.length) (h2 : i < us.length) (h : ¬ ts[i] = us[i]) : (ts == us) = false := by
  rw [beq_eq_false_iff_ne]
  rintro rfl
  exact h rfl
theorem ints_len (ts us : List Int) (h : ¬ ts.length = us.length) : (ts == us) = false := by
  rw [beq_eq_false_iff_ne]
  rintro rfl
  exact h rfl
theorem RI.addr {w : World} {a : Option Addr} {ns : List Int} (h : RI w a ns) (hp : 0 < ns.length) : ∃ b off, a = some ⟨b, off, none⟩ ∧ b < w.heap.size ∧ ∀ i (h : i < ns.length), w.cell? ⟨b, off + i, none⟩ = some (.int .i64 ns[i]) := by
  rcases h with rfl | ⟨b, off, ha, h⟩
  · simp at hp
  · exact ⟨b, off, ha, World.block_lt_of_cell? w _ (h 0 hp), h⟩
theorem ints_cell (ns : List Int) (i : Nat) (h : i < ns.length) : (ns.map (Value.int .i64))[i]? = some (.int .i64 ns[i]) := by
  rw [List.getElem?_map, List.getElem?_eq_getElem h]; rfl
/-- A row of the call's own that holds numbers reads as them. -/
theorem rowI_RI {w : World} {lo n : Nat} {e : TypeId} {a : Option Addr} {c : Nat} {ns : List Int} (hn : Hid (ns.length = n)) (h : w.ownsRow lo e 1 (.slice a n c) n (ns.map (Value.int .i64))) : RI w a ns := by
  have hcells := fun g hg => h.cells (g := g) hg
  rcases h.2 with ⟨hv, h0⟩ | ⟨g, cap, cur, hv, _⟩
  · exact .inl (List.eq_nil_of_length_eq_zero (by rw [hn.out, h0]))
  · injection hv with h1 h2 h3
    subst h1
    refine .inr ⟨g, 0, rfl, fun i hi => ?_⟩
    have e : ∀ j, (⟨g, 0, none⟩ : Addr).add j = ⟨g, j, none⟩ := fun j => by unfold Addr.add; split <;> simp_all
    have := hcells g rfl _ _ (ints_cell ns i hi)
    rw [e] at this
    simpa using this

theorem info2 : (Try.prog.info? 2).map (fun i => (i.zero, i.size, i.bytes)) = some (some (.int .i64 0), 1, 8) := by kernel_rfl

/-- A call hands back a slice of its own that holds these numbers; nothing that was there has turned. -/
def GivesInts (ns : List Int) (n : Nat) (w : World) (e : Ending) (w' : World) : Prop :=
  ∃ g, e = .returned (.slice (some ⟨g, 0, none⟩) n n) ∧ w.heap.size ≤ g ∧ Below w.heap.size w w' ∧ w'.ownsRow w.heap.size 2 1 (.slice (some ⟨g, 0, none⟩) n n) n (ns.map (Value.int .i64))
def FilledI (ns : List Int) (cur : Array Value) (k : Nat) : Prop := ∀ i (h : i < ns.length), i < k → cur[i]? = some (.int .i64 ns[i])
theorem FilledI.step {ns : List Int} {cur : Array Value} {k : Nat} (h : FilledI ns cur k) (hs : cur.size = ns.length) (hk : k < ns.length) : FilledI ns (cur.setIfInBounds k (.int .i64 ns[k])) (k + 1) := by
  intro i hi hik
  by_cases e : i = k
  · subst e
    simp [Array.getElem?_setIfInBounds]; omega
  · rw [Array.getElem?_setIfInBounds_ne (by omega)]
    exact h i hi (by omega)
theorem givesI_of {ns : List Int} {n g : Nat} {w w' : World} {e : Ending} {cur : Array Value} (hn : ns.length = n) (he : e = .returned (.slice (some ⟨g, 0, none⟩) n n)) (hg : w.heap.size ≤ g) (hb : Below w.heap.size w w')
    (hh : w'.heap[g]? = some (.cells cur 2 (0, 0))) (hs : cur.size = n) (hm : ns.length ≤ 1048576) (h : FilledI ns cur n) : GivesInts ns n w e w' := by
  subst hn
  refine ⟨g, he, hg, hb, by simp, .inr ⟨g, _, cur, rfl, hg, hh, Nat.le_refl _, by unfold maxLen; omega, by omega, ?_⟩⟩
  apply List.ext_getElem?
  intro j
  by_cases hj : j < ns.length
  · rw [List.getElem?_take_of_lt (by omega), ints_cell ns j hj]
    simpa using h j hj hj
  · rw [List.getElem?_eq_none (by simp; omega), List.getElem?_eq_none (by simp; omega)]

end Go.Proofs.Ytbndminegokffaa
