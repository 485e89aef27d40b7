/-
  Slices of lists of numbers: how they lie in memory, the walks of the laws' own helpers on them, and how arguments of these types read.
-/
import Derived.Test.YtabopjdcpllocaaNest
import Derived.Test.YtabopjdcpllocaaNums
import Derived.Test.YtabopjdcpllocaaProg
import Derived.Outline
import Derived.LoopTactic
import Derived.StillTailTactics
import Derived.BigQuiet
import Derived.Deep.QuietTactic
import Derived.Deep.RegionHeld3
namespace Go.Proofs.Ytabopjdcpllocaa
open Go.RowKit Go.ChangeShapes Go.WideShapes Go.Deep Go.Joins

abbrev TInt64S := List Int × Unit
/-- The cells of one. -/
def cInt64S (v : Value) (_b : Unit) : List Value := [v]
theorem cInt64S_len (v : Value) (b : Unit) : (cInt64S v b).length = 1 := rfl
/-- What the marks write behind a list. -/
def exInt64S (_k : Int) : Unit := ()
theorem pairU (t u : TInt64S) : (t == u) = (t.1 == u.1) := by obtain ⟨t1, t2⟩ := t; obtain ⟨u1, u2⟩ := u; show ((t1 == u1) && (t2 == u2)) = (t1 == u1); simp
theorem ints_ofInt64S {H : Type} {enc : TypeId × Value → H} {w : World} {spare : Nat → Bool} {held : Bool} {base fuel : Nat} {v : Value} {y : DataW H × List MemPlace}
    (h : DataW.trod enc Try.prog w base spare held fuel 35 [v] = some y) : ∃ (ns : List Int) (ai : Option Addr) (ci : Nat), v = .slice ai ns.length ci ∧ RI w ai ns ∧ ns.length ≤ maxLen ∧ ∀ k ∈ ns, (Lit.int .i64 k).wf = true := by
  rcases open_ints Try.underlying35 Try.underlying2 (by kernel_rfl) h with ⟨hcs, _⟩ | ⟨x, l, c, zs, hcs, _, hl, hm, hz, _, hcell, hwz⟩
  · obtain rfl : v = .slice none 0 0 := by simpa using hcs
    exact ⟨[], none, 0, rfl, .inl rfl, by simp, fun k hk => by simp at hk⟩
  · obtain rfl : v = .slice (some x) l c := by simpa using hcs
    have hz' : l ≤ zs.length := by rw [hz]; split <;> omega
    have hlen : (zs.take l).length = l := by rw [List.length_take]; omega
    refine ⟨zs.take l, some x, c, by rw [hlen], ?_, by omega, fun k hk => hwz k (List.mem_of_mem_take hk)⟩
    by_cases hz0 : l = 0
    · exact .inl (List.eq_nil_of_length_eq_zero (by omega))
    · obtain ⟨b, off, spot⟩ := x
      have c0 := hcell 0 (by omega)
      have hspot : spot = none := by simpa [Addr.add] using World.cell?_spot c0
      subst hspot
      refine .inr ⟨b, off, rfl, fun i hi => ?_⟩
      have hi' : i < zs.length := by simp at hi; omega
      have ci := hcell i hi'
      rw [Addr.add_lit] at ci
      rw [ci, List.getElem_take, List.getD_eq_getElem?_getD, List.getElem?_eq_getElem hi']
      rfl
def wfInt64S (t : TInt64S) : Prop := (∀ k ∈ t.1, (Lit.int .i64 k).wf = true)
/-- A value is a slice of them. -/
def Int64SsIn (w : World) (v : Value) (x : List TInt64S) : Prop :=
  ∃ a n cap, v = .slice a n cap ∧ Hid (x.length = n) ∧ n ≤ maxLen ∧ RN maxLen 1 cInt64S w a x ∧ ∀ t ∈ x, wfInt64S t
theorem cellsInt64S : Try.prog.cellsOf 35 = 1 := by kernel_rfl
set_option maxRecDepth 100000 in
theorem open_Int64Ss {H : Type} {enc : TypeId × Value → H} {w : World} {spare : Nat → Bool} {held : Bool} {r : Reach} {b0 : Nat} {v : Value} {d : DataW H} {p : List MemPlace}
    (hv : Value.okWide Try.prog w r b0 49 v) (h : DataW.Trod enc Try.prog w 0 spare held 49 v d p) : ∃ x, Int64SsIn w v x := by
  obtain ⟨a0, len0, cap0, rfl⟩ := okWide_slice Try.underlying49 hv
  obtain ⟨fuel, hf⟩ := h
  rcases open_slice Try.underlying49 hf with ⟨hcs, _⟩ | ⟨a, len, cap, m', n, D, Pl, hcs, _, hl, hm, hmm, _, hi⟩
  · simp [Value.cells] at hcs
    obtain ⟨rfl, rfl, rfl⟩ := hcs
    exact ⟨[], none, 0, 0, rfl, rfl, by omega, RN.nil _ _ _ _ _, fun k hk => by simp at hk⟩
  · simp [Value.cells] at hcs
    obtain ⟨rfl, rfl, rfl⟩ := hcs
    have hmlen : len0 ≤ m' := by rw [hmm]; split <;> omega
    have hrow : ∀ i, i < len0 → ∃ e : NE (Unit), (∃ ai ci, e.1 = .slice ai e.2.1.length ci ∧ RI w ai e.2.1 ∧ e.2.1.length ≤ maxLen) ∧ wfInt64S e.2 ∧ ∀ (j : Nat) (v : Value), (ceN cInt64S e)[j]? = some v → w.cell? (a.add (i * 1 + j)) = some v := by
      intro i hlt
      obtain ⟨cs', hc, ht'⟩ := hi i (by omega)
      rw [cellsInt64S] at hc
      obtain ⟨_, hcl, hat⟩ := World.cells?_some hc
      obtain ⟨v0, rfl⟩ : ∃ v0, cs' = [v0] := by
        match cs', hcl with
        | [v0], _ => exact ⟨v0, rfl⟩
      obtain ⟨ns, ai, ci, hv0, hr, hm0, hw⟩ := ints_ofInt64S ht'
      have g0 := hat (i := 0) (by omega)
      refine ⟨(v0, ns, ()), ⟨ai, ci, hv0, hr, hm0⟩, hw, fun j v hj => ?_⟩
      match j, hj with
      | 0, hj => obtain rfl : v0 = v := Option.some.inj hj; rw [Go.Deep.add_add] at g0; exact g0
      | j + 1, hj => simp [ceN, cInt64S] at hj
    obtain ⟨es, hes, hq⟩ := pick_list len0 _ hrow
    refine ⟨es.map (·.2), some a, len0, cap0, rfl, by unfold Hid; simp [hes], by omega, ⟨es, rfl, ?_, fun i hi => (hq i hi).1⟩, fun t ht => ?_⟩
    · by_cases hz : es.length = 0
      · exact .inl (List.eq_nil_of_length_eq_zero hz)
      · obtain ⟨b, off, spot⟩ := a
        have c0 := (hq 0 (by omega)).2.2 0 _ rfl
        have hspot : spot = none := by simpa [Addr.add] using World.cell?_spot c0
        subst hspot
        have hlt := World.block_lt_of_cell? w _ c0
        rw [Addr.add_lit] at hlt
        refine .inr ⟨b, off, rfl, hlt, fun i hi j v hj => ?_⟩
        have c1 := (hq i hi).2.2 j v hj
        rw [Addr.add_lit] at c1
        rw [Nat.add_assoc]; exact c1
    · obtain ⟨e, he, rfl⟩ := List.mem_map.1 ht
      obtain ⟨i, hi, rfl⟩ := List.getElem_of_mem he
      exact (hq i hi).2.1
theorem info35 : (Try.prog.info? 35).map (fun i => (i.zero, i.size, i.bytes)) = some (some (.slice none 0 0), 1, 24) := by kernel_rfl
theorem cInt64S_cells {w : World} {g : Nat} {cur : Array Value} {e : TypeId} (h : w.heap[g]? = some (.cells cur e (0, 0))) (k : Nat) (hk : k * 1 + 0 < cur.size) :
    (∃ v, w.cell? ⟨g, k * 1, none⟩ = some v) ∧ w.frozen? ⟨g, k * 1, none⟩ = false := by
  refine ⟨⟨cur[k * 1], ?_⟩, ?_⟩
  · rw [cell_of_row w g _ cur e (0, 0) h]; exact Array.getElem?_eq_getElem _
  all_goals exact frozen_of_row w g _ cur e h
/-- A round that makes one more. -/
theorem cInt64S_made {ts : List TInt64S} {cur : Array Value} {g n k : Nat} {w w1 : World} {u : Value} (h : HalfN g 1 2 cInt64S ts cur w k) (hk : k < ts.length) (hg : g < w.heap.size) (hb : Below w.heap.size w w1) (hs : cur.size = n * 1) (hn : ts.length = n)
    (ho : w1.ownsRow w.heap.size 2 1 u ts[k].1.length (ts[k].1.map (Value.int .i64))) : HalfN g 1 2 cInt64S ts (cur.setIfInBounds (k * 1) (u)) (w1.setCell ⟨g, k * 1, none⟩ (u)) (k + 1) := by
  refine h.step cInt64S_len hk hg hb ho (fun p hp => ?_) (by simp) rfl rfl rfl (fun p hp => ?_) (fun j v hj => ?_)
  · rw [heap_setCell_other _ _ _ _ hp]
  · rw [Array.getElem?_setIfInBounds_ne (by omega)]
  · match j, hj with
    | 0, hj => obtain rfl : _ = v := Option.some.inj hj; simp [Array.getElem?_setIfInBounds]; omega
    | j + 1, hj => simp [cInt64S] at hj
end Go.Proofs.Ytabopjdcpllocaa
