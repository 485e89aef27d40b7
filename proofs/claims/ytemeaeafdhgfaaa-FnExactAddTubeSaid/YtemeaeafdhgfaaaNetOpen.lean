/-
  How an argument that is a network (laws.Net), a tube (laws.Tube) or a slice of numbers reads: the shapes that the frames of the laws open.
-/
import Derived.Test.YtemeaeafdhgfaaaNetMem
import Derived.Test.YtemeaeafdhgfaaaProg
import Derived.ProofKit
import Derived.OpenShut
import Derived.Lib.SmallJoins
import Derived.Deep.Slices
import Derived.Deep.Fields
import Derived.ChangeSame
import Derived.ChangeOld
namespace Go.Proofs.Ytemeaeafdhgfaaa
open Go.ChangeShapes Go.WideShapes Go.Deep Go.RowKit Go.Joins

section
variable {H : Type} {enc : TypeId × Value → H} {P : Program} {w : World} {base : Nat} {spare : Nat → Bool} {held : Bool}
theorem open_slice_fields {t e : TypeId} {fs : Array Field} {fuel : Nat} {cs : List Value} {x : DataW H × List MemPlace} (ht : P.underlying t = some (.slice e)) (he : P.underlying e = some (.struct fs))
    (hone : oneCellFields P fs = true) (hC : P.cellsOf e = fs.size) (h : DataW.trod enc P w base spare held fuel t cs = some x) :
    (cs = [.slice none 0 0] ∧ x = (.nil, [])) ∨
    ∃ (a : Addr) (len cap m : Nat) (D : Nat → DataW H) (Pl : Nat → List MemPlace), cs = [.slice (some a) len cap] ∧ base ≤ a.block ∧ len ≤ cap ∧ cap ≤ maxLen ∧ m = (if spare a.block then cap else len) ∧
      x = (.slice ((List.range len).map D) ((List.range (m - len)).map fun j => D (len + j)), MemPlace.row a (m * fs.size) ++ (List.range m).flatMap Pl) ∧
      ∀ i, i < m → ∃ (ys : List (DataW H × List MemPlace)) (n : Nat), D i = .agg (ys.map (·.1)) ∧ Pl i = ys.flatMap (·.2) ∧ ys.length = fs.size ∧
        ∀ (j : Nat) (f : Field), fs[j]? = some f → ∃ (v : Value) (y : DataW H × List MemPlace), w.cell? (a.add (i * fs.size + j)) = some v ∧ ys[j]? = some y ∧ DataW.trod enc P w base spare held n f.type [v] = some y := by
  rcases open_slice ht h with h0 | ⟨a, len, cap, m, n, D, Pl, hcs, hb, hl, hm, hmm, hx, hi⟩
  · exact .inl h0
  · refine .inr ⟨a, len, cap, m, D, Pl, hcs, hb, hl, hm, hmm, by rw [hC] at hx; exact hx, fun i him => ?_⟩
    obtain ⟨cs', hc, ht'⟩ := hi i him
    rw [hC] at hc
    obtain ⟨ys, n', hn', hy, hlen, hyl, hf⟩ := DataW.trod_struct he ht'
    obtain ⟨_, hcl, hat⟩ := World.cells?_some hc
    simp only [Prod.mk.injEq] at hy
    refine ⟨ys, n', hy.1, hy.2, hyl, fun j f hj => ?_⟩
    obtain ⟨ho, hk⟩ := hone_of hone j f hj
    have hjl : j < fs.size := (Array.getElem?_eq_some_iff.1 hj).1
    have hcell := hat j hjl
    have hv : cs'[j]? = some (cs'[j]'(by omega)) := List.getElem?_eq_getElem (by omega)
    have h1 := hf j f hj
    rw [ho, hk] at h1
    have hone' : (cs'.drop j).take 1 = [cs'[j]'(by omega)] := by
      rw [List.drop_eq_getElem_cons (by omega)]
      rfl
    rw [hone'] at h1
    have hys : ys[j]? = some (ys[j]'(by omega)) := List.getElem?_eq_getElem (by omega)
    refine ⟨_, _, ?_, hys, h1.trans hys⟩
    rw [← Go.Deep.add_add, hcell, hv]
end

/-- The numbers of a tube fit their kind. -/
def wfT (t : T3) : Prop := (Lit.int .i64 t.1).wf = true ∧ (Lit.int .i64 t.2.1).wf = true ∧ (Lit.int .i64 t.2.2).wf = true
/-- A value is a network of the laws' own: its stations, its tubes in memory. -/
def NetIn (w : World) (v : Value) (x : Int × List T3) : Prop :=
  ∃ a n cap, v = .agg #[.int .i64 x.1, .slice a n cap] ∧ Hid (x.2.length = n) ∧ n ≤ maxLen ∧ RT w a x.2 ∧ (Lit.int .i64 x.1).wf = true ∧ ∀ t ∈ x.2, wfT t

theorem pick_list {α : Type} (n : Nat) (Q : Nat → α → Prop) (h : ∀ i, i < n → ∃ t, Q i t) : ∃ l : List α, l.length = n ∧ ∀ i (hi : i < l.length), Q i l[i] := by
  induction n with
  | zero => exact ⟨[], rfl, fun i hi => by simp at hi⟩
  | succ n ih =>
    obtain ⟨l, hl, hq⟩ := ih (fun i hi => h i (by omega))
    obtain ⟨t, ht⟩ := h n (by omega)
    refine ⟨l ++ [t], by simp [hl], fun i hi => ?_⟩
    by_cases e : i < l.length
    · rw [List.getElem_append_left e]; exact hq i e
    · have : i = n := by simp at hi; omega
      subst this
      rw [List.getElem_append_right (by omega)]
      simpa using ht

theorem cellsTube : Try.prog.cellsOf 40 = 3 := by kernel_rfl
theorem cellsNet : Try.prog.cellsOf 29 = 2 := by kernel_rfl

set_option maxRecDepth 100000 in
theorem open_net {H : Type} {enc : TypeId × Value → H} {w : World} {spare : Nat → Bool} {held : Bool} {r : Reach} {b0 : Nat} {v : Value} {d : DataW H} {p : List MemPlace}
    (hv : Value.okWide Try.prog w r b0 29 v) (h : DataW.Trod enc Try.prog w 0 spare held 29 v d p) : ∃ x, NetIn w v x := by
  obtain ⟨c0, c1, y0, y1, m, rfl, rfl, rfl, hy0, hy1⟩ := open_agg2 Try.underlying29 (by kernel_rfl) cellsNet hv h
  obtain ⟨s, e0, _, ws⟩ := DataW.trod_int Try.underlying2 hy0
  obtain rfl : c0 = .int .i64 s := by simpa using e0
  rcases open_slice_fields Try.underlying27 Try.underlying40 (by kernel_rfl) cellsTube hy1 with ⟨hcs, _⟩ | ⟨a, len, cap, m', D, Pl, hcs, _, hl, hm, hmm, _, hi⟩
  · obtain rfl : c1 = .slice none 0 0 := by simpa using hcs
    exact ⟨(s, []), none, 0, 0, rfl, rfl, by omega, .inl rfl, ws, fun t ht => by simp at ht⟩
  · obtain rfl : c1 = .slice (some a) len cap := by simpa using hcs
    have hmlen : len ≤ m' := by rw [hmm]; split <;> omega
    have hrow : ∀ i, i < len → ∃ t : T3, wfT t ∧ w.cell? (a.add (i * 3)) = some (.int .i64 t.1) ∧ w.cell? (a.add (i * 3 + 1)) = some (.int .i64 t.2.1) ∧ w.cell? (a.add (i * 3 + 2)) = some (.int .i64 t.2.2) := by
      intro i hlt
      obtain ⟨ys, n', _, _, _, hf⟩ := hi i (by omega)
      obtain ⟨v0, z0, g0, _, t0⟩ := hf 0 _ rfl
      obtain ⟨v1, z1, g1, _, t1⟩ := hf 1 _ rfl
      obtain ⟨v2, z2, g2, _, t2⟩ := hf 2 _ rfl
      obtain ⟨k0, q0, _, f0⟩ := DataW.trod_int Try.underlying2 t0
      obtain ⟨k1, q1, _, f1⟩ := DataW.trod_int Try.underlying2 t1
      obtain ⟨k2, q2, _, f2⟩ := DataW.trod_int Try.underlying2 t2
      obtain rfl : v0 = .int .i64 k0 := by simpa using q0
      obtain rfl : v1 = .int .i64 k1 := by simpa using q1
      obtain rfl : v2 = .int .i64 k2 := by simpa using q2
      exact ⟨(k0, k1, k2), ⟨f0, f1, f2⟩, g0, g1, g2⟩
    obtain ⟨ts, hts, hq⟩ := pick_list len _ hrow
    refine ⟨(s, ts), some a, len, cap, rfl, hts, by omega, ?_, ws, fun t ht => ?_⟩
    · by_cases hz : ts.length = 0
      · exact .inl (List.eq_nil_of_length_eq_zero hz)
      · obtain ⟨b, off, spot⟩ := a
        obtain ⟨_, c0, _⟩ := hq 0 (by omega)
        have hspot : spot = none := by simpa [Addr.add] using World.cell?_spot c0
        subst hspot
        refine .inr ⟨b, off, rfl, fun i hi => ?_⟩
        obtain ⟨_, c0, c1, c2⟩ := hq i hi
        rw [Addr.add_lit] at c0 c1 c2
        exact ⟨c0, by rw [Nat.add_assoc]; exact c1, by rw [Nat.add_assoc]; exact c2⟩
    · obtain ⟨i, hi, rfl⟩ := List.getElem_of_mem ht
      exact (hq i hi).1

/-- A value is a tube of the laws' own. -/
def TubeIn (v : Value) (t : T3) : Prop := v = .agg #[.int .i64 t.1, .int .i64 t.2.1, .int .i64 t.2.2] ∧ wfT t
set_option maxRecDepth 100000 in
theorem open_tube {H : Type} {enc : TypeId × Value → H} {w : World} {spare : Nat → Bool} {held : Bool} {r : Reach} {b0 : Nat} {v : Value} {d : DataW H} {p : List MemPlace}
    (hv : Value.okWide Try.prog w r b0 40 v) (h : DataW.Trod enc Try.prog w 0 spare held 40 v d p) : ∃ t, TubeIn v t := by
  obtain ⟨c0, c1, c2, y0, y1, y2, m, rfl, rfl, rfl, hy0, hy1, hy2⟩ := open_agg3 Try.underlying40 (by kernel_rfl) cellsTube hv h
  obtain ⟨k0, e0, _, f0⟩ := DataW.trod_int Try.underlying2 hy0
  obtain ⟨k1, e1, _, f1⟩ := DataW.trod_int Try.underlying2 hy1
  obtain ⟨k2, e2, _, f2⟩ := DataW.trod_int Try.underlying2 hy2
  obtain rfl : c0 = .int .i64 k0 := by simpa using e0
  obtain rfl : c1 = .int .i64 k1 := by simpa using e1
  obtain rfl : c2 = .int .i64 k2 := by simpa using e2
  exact ⟨(k0, k1, k2), rfl, f0, f1, f2⟩
/-- A value is a slice of numbers: the numbers lie in memory. -/
def NumsIn (w : World) (v : Value) (x : List Int) : Prop :=
  ∃ a n cap, v = .slice a n cap ∧ Hid (x.length = n) ∧ n ≤ maxLen ∧ RI w a x ∧ ∀ k ∈ x, (Lit.int .i64 k).wf = true
set_option maxRecDepth 100000 in
theorem open_list {H : Type} {enc : TypeId × Value → H} {w : World} {spare : Nat → Bool} {held : Bool} {r : Reach} {b0 : Nat} {v : Value} {d : DataW H} {p : List MemPlace}
    (hv : Value.okWide Try.prog w r b0 47 v) (h : DataW.Trod enc Try.prog w 0 spare held 47 v d p) : ∃ x, NumsIn w v x := by
  obtain ⟨a0, len0, cap0, rfl⟩ := okWide_slice Try.underlying47 hv
  obtain ⟨fuel, hf⟩ := h
  rcases open_ints Try.underlying47 Try.underlying2 (by kernel_rfl) hf with ⟨hcs, _⟩ | ⟨x, l, c, zs, hcs, _, hl, hm, hz, _, hcell, hwz⟩
  · simp [Value.cells] at hcs
    obtain ⟨rfl, rfl, rfl⟩ := hcs
    exact ⟨[], none, 0, 0, rfl, rfl, by omega, .inl rfl, fun k hk => by simp at hk⟩
  · simp [Value.cells] at hcs
    obtain ⟨rfl, rfl, rfl⟩ := hcs
    have hz' : len0 ≤ zs.length := by rw [hz]; split <;> omega
    have hlen : (zs.take len0).length = len0 := by rw [List.length_take]; omega
    refine ⟨zs.take len0, some x, len0, cap0, rfl, hlen, by omega, ?_, fun k hk => hwz k (List.mem_of_mem_take hk)⟩
    by_cases hz0 : len0 = 0
    · exact .inl (List.eq_nil_of_length_eq_zero (by omega))
    · obtain ⟨b, off, spot⟩ := x
      have c0 := hcell 0 (by omega)
      have hspot : spot = none := by simpa [Addr.add] using World.cell?_spot c0
      subst hspot
      refine .inr ⟨b, off, rfl, fun i hi => ?_⟩
      have hi' : i < zs.length := by simp at hi; omega
      have ci := hcell i hi'
      rw [Addr.add_lit] at ci
      rw [ci, List.getElem_take, List.getD_eq_getElem?_getD, List.getElem?_eq_getElem hi']
      rfl
end Go.Proofs.Ytemeaeafdhgfaaa
