/-
  How an argument that is a slice of numbers reads.
-/
import Derived.Test.YtiilgeoahpnkpaaProg
import Derived.Test.YtiilgeoahpnkpaaBase
namespace Go.Proofs.Ytiilgeoahpnkpaa
open Go.RowKit Go.ChangeShapes Go.WideShapes Go.Deep Go.Joins

/-- A value is a slice of numbers: the numbers lie in memory. -/
def NumsIn (w : World) (v : Value) (x : List Int) : Prop :=
  ∃ a n cap, v = .slice a n cap ∧ Hid (x.length = n) ∧ n ≤ maxLen ∧ RI w a x ∧ ∀ k ∈ x, (Lit.int .i64 k).wf = true
set_option maxRecDepth 100000 in
theorem open_list {H : Type} {enc : TypeId × Value → H} {w : World} {spare : Nat → Bool} {held : Bool} {r : Reach} {b0 : Nat} {v : Value} {d : DataW H} {p : List MemPlace}
    (hv : Value.okWide Try.prog w r b0 25 v) (h : DataW.Trod enc Try.prog w 0 spare held 25 v d p) : ∃ x, NumsIn w v x := by
  obtain ⟨a0, len0, cap0, rfl⟩ := okWide_slice Try.underlying25 hv
  obtain ⟨fuel, hf⟩ := h
  rcases open_ints Try.underlying25 Try.underlying2 (by kernel_rfl) hf with ⟨hcs, _⟩ | ⟨x, l, c, zs, hcs, _, hl, hm, hz, _, hcell, hwz⟩
  · simp [Value.cells] at hcs
    obtain ⟨rfl, rfl, rfl⟩ := hcs
    exact ⟨[], none, 0, 0, rfl, rfl, by omega, .inl rfl, fun k hk => by simp at hk⟩
  · simp [Value.cells] at hcs
    obtain ⟨rfl, rfl, rfl⟩ := hcs
    have hz' : len0 ≤ zs.length := by rw [hz]; split <;> omega
    have hlen : (zs.take len0).length = len0 := by rw [List.length_take]; omega
    refine ⟨zs.take len0, some x, len0, cap0, rfl, hlen, by omega, ?_, fun k hk => hwz k (List.mem_of_mem_take hk)⟩
    by_cases hz0 : len0 = 0
    · exact .inl (List.eq_nil_of_length_eq_zero (by omega))
    · obtain ⟨b, off, spot⟩ := x
      have c0 := hcell 0 (by omega)
      have hspot : spot = none := by simpa [Addr.add] using World.cell?_spot c0
      subst hspot
      refine .inr ⟨b, off, rfl, fun i hi => ?_⟩
      have hi' : i < zs.length := by simp at hi; omega
      have ci := hcell i hi'
      rw [Addr.add_lit] at ci
      rw [ci, List.getElem_take, List.getD_eq_getElem?_getD, List.getElem?_eq_getElem hi']
      rfl
end Go.Proofs.Ytiilgeoahpnkpaa
