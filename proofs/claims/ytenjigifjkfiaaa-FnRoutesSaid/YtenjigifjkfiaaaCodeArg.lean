/-
  How an argument that is a row of bytes, a law's code, reads.
-/
import Derived.Test.YtenjigifjkfiaaaSrc
import Derived.ProofKit
import Derived.OpenShut
import Derived.Lib.SmallJoins
import Derived.Deep.Slices
import Derived.ChangeSame
import Derived.ChangeOld
namespace Go.Proofs.Ytenjigifjkfiaaa
open Go.RowKit Go.ChangeShapes Go.WideShapes Go.Deep Go.Joins

theorem u8_wf {x : Int} (h : (Lit.int .u8 x).wf = true) : 0 ≤ x ∧ x ≤ 255 := by
  have h1 : (decide (IntKind.u8.min ≤ x) && decide (x ≤ IntKind.u8.max)) = true := h
  have e1 : IntKind.u8.min = 0 := rfl
  have e2 : IntKind.u8.max = 255 := rfl
  rw [e1, e2] at h1
  simpa using h1
/-- A value is a code: a slice of bytes that lie in memory. -/
def CodeArg (w : World) (v : Value) (x : Unit) : Prop := x = () ∧ ∃ a n c, v = .slice a n c ∧ n ≤ 9223372036854775807 ∧ CodeIn w.heap.size a n w
theorem CodeIn.later {a : Option Addr} {n : Nat} {w W : World} (h : CodeIn w.heap.size a n w) (hb : Below w.heap.size w W) : CodeIn W.heap.size a n W := by
  rcases h with h | ⟨b, off, ha, hbb, hc⟩
  · exact .inl h
  · refine .inr ⟨b, off, ha, Nat.lt_of_lt_of_le hbb hb.size, fun i hi => ?_⟩
    obtain ⟨x, h0, h1, hx⟩ := hc i hi
    exact ⟨x, h0, h1, (hb.cell (p := ⟨b, off + i, none⟩) hbb).trans hx⟩
set_option maxRecDepth 100000 in
theorem open_bytes {H : Type} {enc : TypeId × Value → H} {w : World} {spare : Nat → Bool} {held : Bool} {r : Reach} {b0 : Nat} {v : Value} {d : DataW H} {p : List MemPlace}
    (hv : Value.okWide Try.prog w r b0 22 v) (h : DataW.Trod enc Try.prog w 0 spare held 22 v d p) : ∃ x, CodeArg w v x := by
  obtain ⟨a0, len0, cap0, rfl⟩ := okWide_slice Try.underlying22 hv
  obtain ⟨fuel, hf⟩ := h
  rcases open_ints Try.underlying22 Try.underlying5 (by kernel_rfl) hf with ⟨hcs, _⟩ | ⟨x, l, c, zs, hcs, _, hl, hm, hz, _, hcell, hwz⟩
  · simp [Value.cells] at hcs
    obtain ⟨rfl, rfl, rfl⟩ := hcs
    exact ⟨(), rfl, none, 0, 0, rfl, by decide, .inl rfl⟩
  · simp [Value.cells] at hcs
    obtain ⟨rfl, rfl, rfl⟩ := hcs
    have hz' : len0 ≤ zs.length := by rw [hz]; split <;> omega
    unfold maxLen at hm
    refine ⟨(), rfl, some x, len0, cap0, rfl, by omega, ?_⟩
    by_cases hz0 : len0 = 0
    · exact .inl hz0
    · obtain ⟨b, off, spot⟩ := x
      have c0 := hcell 0 (by omega)
      have hspot : spot = none := by simpa [Addr.add] using World.cell?_spot c0
      subst hspot
      refine .inr ⟨b, off, rfl, ?_, fun i hi => ?_⟩
      · rw [Addr.add_lit] at c0
        exact World.block_lt_of_cell? w _ c0
      · have ci := hcell i (by omega)
        rw [Addr.add_lit] at ci
        have hi' : i < zs.length := by omega
        have hw := hwz (zs.getD i 0) (by rw [List.getD_eq_getElem?_getD, List.getElem?_eq_getElem hi']; exact List.getElem_mem hi')
        have hw2 := u8_wf hw
        exact ⟨_, hw2.1, hw2.2, ci⟩
end Go.Proofs.Ytenjigifjkfiaaa
