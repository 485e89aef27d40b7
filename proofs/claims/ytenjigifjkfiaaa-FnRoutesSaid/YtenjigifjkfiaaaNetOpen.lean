/-
  How an argument that is a network (laws.Net), a tube (laws.Tube) or a slice of numbers reads: the shapes that the frames of the laws open.
-/
import Derived.Test.YtenjigifjkfiaaaNetMem
import Derived.Test.YtenjigifjkfiaaaNums
import Derived.Test.YtenjigifjkfiaaaProg
import Derived.ProofKit
import Derived.OpenShut
import Derived.Lib.SmallJoins
import Derived.Deep.Slices
import Derived.Deep.Fields
import Derived.ChangeSame
import Derived.ChangeOld
namespace Go.Proofs.Ytenjigifjkfiaaa
open Go.ChangeShapes Go.WideShapes Go.Deep Go.RowKit Go.Joins

/-- The numbers of a tube fit their kind. -/
def wfT (t : T3) : Prop := (Lit.int .i64 t.1).wf = true ∧ (Lit.int .i64 t.2.1).wf = true ∧ (Lit.int .i64 t.2.2).wf = true
/-- A value is a network of the laws' own: its stations, its tubes in memory. -/
def NetIn (w : World) (v : Value) (x : Int × List T3) : Prop :=
  ∃ a n cap, v = .agg #[.int .i64 x.1, .slice a n cap] ∧ Hid (x.2.length = n) ∧ n ≤ maxLen ∧ RT w a x.2 ∧ (Lit.int .i64 x.1).wf = true ∧ ∀ t ∈ x.2, wfT t

theorem cellsTube : Try.prog.cellsOf 100 = 3 := by kernel_rfl
theorem cellsNet : Try.prog.cellsOf 46 = 2 := by kernel_rfl

set_option maxRecDepth 100000 in
theorem open_net {H : Type} {enc : TypeId × Value → H} {w : World} {spare : Nat → Bool} {held : Bool} {r : Reach} {b0 : Nat} {v : Value} {d : DataW H} {p : List MemPlace}
    (hv : Value.okWide Try.prog w r b0 46 v) (h : DataW.Trod enc Try.prog w 0 spare held 46 v d p) : ∃ x, NetIn w v x := by
  obtain ⟨c0, c1, y0, y1, m, rfl, rfl, rfl, hy0, hy1⟩ := open_agg2 Try.underlying46 (by kernel_rfl) cellsNet hv h
  obtain ⟨s, e0, _, ws⟩ := DataW.trod_int Try.underlying2 hy0
  obtain rfl : c0 = .int .i64 s := by simpa using e0
  rcases open_slice_fields Try.underlying44 Try.underlying100 (by kernel_rfl) cellsTube hy1 with ⟨hcs, _⟩ | ⟨a, len, cap, m', D, Pl, hcs, _, hl, hm, hmm, _, hi⟩
  · obtain rfl : c1 = .slice none 0 0 := by simpa using hcs
    exact ⟨(s, []), none, 0, 0, rfl, rfl, by omega, .inl rfl, ws, fun t ht => by simp at ht⟩
  · obtain rfl : c1 = .slice (some a) len cap := by simpa using hcs
    have hmlen : len ≤ m' := by rw [hmm]; split <;> omega
    have hrow : ∀ i, i < len → ∃ t : T3, wfT t ∧ w.cell? (a.add (i * 3)) = some (.int .i64 t.1) ∧ w.cell? (a.add (i * 3 + 1)) = some (.int .i64 t.2.1) ∧ w.cell? (a.add (i * 3 + 2)) = some (.int .i64 t.2.2) := by
      intro i hlt
      obtain ⟨ys, n', _, _, _, hf⟩ := hi i (by omega)
      obtain ⟨v0, z0, g0, _, t0⟩ := hf 0 _ rfl
      obtain ⟨v1, z1, g1, _, t1⟩ := hf 1 _ rfl
      obtain ⟨v2, z2, g2, _, t2⟩ := hf 2 _ rfl
      obtain ⟨k0, q0, _, f0⟩ := DataW.trod_int Try.underlying2 t0
      obtain ⟨k1, q1, _, f1⟩ := DataW.trod_int Try.underlying2 t1
      obtain ⟨k2, q2, _, f2⟩ := DataW.trod_int Try.underlying2 t2
      obtain rfl : v0 = .int .i64 k0 := by simpa using q0
      obtain rfl : v1 = .int .i64 k1 := by simpa using q1
      obtain rfl : v2 = .int .i64 k2 := by simpa using q2
      exact ⟨(k0, k1, k2), ⟨f0, f1, f2⟩, g0, g1, g2⟩
    obtain ⟨ts, hts, hq⟩ := pick_list len _ hrow
    refine ⟨(s, ts), some a, len, cap, rfl, hts, by omega, ?_, ws, fun t ht => ?_⟩
    · by_cases hz : ts.length = 0
      · exact .inl (List.eq_nil_of_length_eq_zero hz)
      · obtain ⟨b, off, spot⟩ := a
        obtain ⟨_, c0, _⟩ := hq 0 (by omega)
        have hspot : spot = none := by simpa [Addr.add] using World.cell?_spot c0
        subst hspot
        refine .inr ⟨b, off, rfl, fun i hi => ?_⟩
        obtain ⟨_, c0, c1, c2⟩ := hq i hi
        rw [Addr.add_lit] at c0 c1 c2
        exact ⟨c0, by rw [Nat.add_assoc]; exact c1, by rw [Nat.add_assoc]; exact c2⟩
    · obtain ⟨i, hi, rfl⟩ := List.getElem_of_mem ht
      exact (hq i hi).1

/-- A value is a tube of the laws' own. -/
def TubeIn (v : Value) (t : T3) : Prop := v = .agg #[.int .i64 t.1, .int .i64 t.2.1, .int .i64 t.2.2] ∧ wfT t
set_option maxRecDepth 100000 in
theorem open_tube {H : Type} {enc : TypeId × Value → H} {w : World} {spare : Nat → Bool} {held : Bool} {r : Reach} {b0 : Nat} {v : Value} {d : DataW H} {p : List MemPlace}
    (hv : Value.okWide Try.prog w r b0 100 v) (h : DataW.Trod enc Try.prog w 0 spare held 100 v d p) : ∃ t, TubeIn v t := by
  obtain ⟨c0, c1, c2, y0, y1, y2, m, rfl, rfl, rfl, hy0, hy1, hy2⟩ := open_agg3 Try.underlying100 (by kernel_rfl) cellsTube hv h
  obtain ⟨k0, e0, _, f0⟩ := DataW.trod_int Try.underlying2 hy0
  obtain ⟨k1, e1, _, f1⟩ := DataW.trod_int Try.underlying2 hy1
  obtain ⟨k2, e2, _, f2⟩ := DataW.trod_int Try.underlying2 hy2
  obtain rfl : c0 = .int .i64 k0 := by simpa using e0
  obtain rfl : c1 = .int .i64 k1 := by simpa using e1
  obtain rfl : c2 = .int .i64 k2 := by simpa using e2
  exact ⟨(k0, k1, k2), rfl, f0, f1, f2⟩
end Go.Proofs.Ytenjigifjkfiaaa
