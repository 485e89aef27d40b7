/-
  Slices of lists of numbers: how they lie in memory, the walks of the laws' own helpers on them, and how arguments of these types read.
-/
import Derived.Test.YtghpefdleiebmaaNest
import Derived.Test.YtghpefdleiebmaaNums
import Derived.Test.YtghpefdleiebmaaProg
import Derived.Outline
import Derived.LoopTactic
import Derived.StillTailTactics
import Derived.BigQuiet
import Derived.Deep.QuietTactic
import Derived.Deep.RegionHeld3
namespace Go.Proofs.Ytghpefdleiebmaa
open Go.RowKit Go.ChangeShapes Go.WideShapes Go.Deep Go.Joins

abbrev TInt64S := List Int × Unit
/-- The cells of one. -/
def cInt64S (v : Value) (_b : Unit) : List Value := [v]
theorem cInt64S_len (v : Value) (b : Unit) : (cInt64S v b).length = 1 := rfl
/-- What the marks write behind a list. -/
def exInt64S (_k : Int) : Unit := ()
theorem pairU (t u : TInt64S) : (t == u) = (t.1 == u.1) := by obtain ⟨t1, t2⟩ := t; obtain ⟨u1, u2⟩ := u; show ((t1 == u1) && (t2 == u2)) = (t1 == u1); simp
theorem ints_ofInt64S {H : Type} {enc : TypeId × Value → H} {w : World} {spare : Nat → Bool} {held : Bool} {base fuel : Nat} {v : Value} {y : DataW H × List MemPlace}
    (h : DataW.trod enc Try.prog w base spare held fuel 24 [v] = some y) : ∃ (ns : List Int) (ai : Option Addr) (ci : Nat), v = .slice ai ns.length ci ∧ RI w ai ns ∧ ns.length ≤ maxLen ∧ ∀ k ∈ ns, (Lit.int .i64 k).wf = true := by
  rcases open_ints Try.underlying24 Try.underlying2 (by kernel_rfl) h with ⟨hcs, _⟩ | ⟨x, l, c, zs, hcs, _, hl, hm, hz, _, hcell, hwz⟩
  · obtain rfl : v = .slice none 0 0 := by simpa using hcs
    exact ⟨[], none, 0, rfl, .inl rfl, by simp, fun k hk => by simp at hk⟩
  · obtain rfl : v = .slice (some x) l c := by simpa using hcs
    have hz' : l ≤ zs.length := by rw [hz]; split <;> omega
    have hlen : (zs.take l).length = l := by rw [List.length_take]; omega
    refine ⟨zs.take l, some x, c, by rw [hlen], ?_, by omega, fun k hk => hwz k (List.mem_of_mem_take hk)⟩
    by_cases hz0 : l = 0
    · exact .inl (List.eq_nil_of_length_eq_zero (by omega))
    · obtain ⟨b, off, spot⟩ := x
      have c0 := hcell 0 (by omega)
      have hspot : spot = none := by simpa [Addr.add] using World.cell?_spot c0
      subst hspot
      refine .inr ⟨b, off, rfl, fun i hi => ?_⟩
      have hi' : i < zs.length := by simp at hi; omega
      have ci := hcell i hi'
      rw [Addr.add_lit] at ci
      rw [ci, List.getElem_take, List.getD_eq_getElem?_getD, List.getElem?_eq_getElem hi']
      rfl
def wfInt64S (t : TInt64S) : Prop := (∀ k ∈ t.1, (Lit.int .i64 k).wf = true)
/-- A value is a slice of them. -/
def Int64SsIn (w : World) (v : Value) (x : List TInt64S) : Prop :=
  ∃ a n cap, v = .slice a n cap ∧ Hid (x.length = n) ∧ n ≤ maxLen ∧ RN maxLen 1 cInt64S w a x ∧ ∀ t ∈ x, wfInt64S t
theorem cellsInt64S : Try.prog.cellsOf 24 = 1 := by kernel_rfl
theorem szInt64S_any (a : Option Addr) (n c : Nat) (left : Int) (w : World) (h0 : 0 ≤ left) (h1 : left ≤ 1048576) (hn : n ≤ maxLen) :
    Calls Try.prog 65 #[.slice a n c, .int .i64 left] w fun e w' => e = .returned (.int .i64 (leftOf left n)) ∧ Below w.heap.size w w' := by
  unfold maxLen at hn
  by_cases h : left < n
  · have HR := Lib.hid (leftOf_less h)
    go_enter Try.func65, Try.ntmps65
    go_wp2
    go_ret
    exact ⟨ret_int HR.out.symm, Below.refl _ _⟩
  · have HR := Lib.hid (leftOf_enough h)
    go_enter Try.func65, Try.ntmps65
    go_wp2
    go_ret
    exact ⟨ret_int HR.out.symm, Below.refl _ _⟩
theorem info24 : (Try.prog.info? 24).map (fun i => (i.zero, i.size, i.bytes)) = some (some (.slice none 0 0), 1, 24) := by kernel_rfl
theorem cInt64S_cells {w : World} {g : Nat} {cur : Array Value} {e : TypeId} (h : w.heap[g]? = some (.cells cur e (0, 0))) (k : Nat) (hk : k * 1 + 0 < cur.size) :
    (∃ v, w.cell? ⟨g, k * 1, none⟩ = some v) ∧ w.frozen? ⟨g, k * 1, none⟩ = false := by
  refine ⟨⟨cur[k * 1], ?_⟩, ?_⟩
  · rw [cell_of_row w g _ cur e (0, 0) h]; exact Array.getElem?_eq_getElem _
  all_goals exact frozen_of_row w g _ cur e h
/-- A round that makes one more. -/
theorem cInt64S_made {ts : List TInt64S} {cur : Array Value} {g n k : Nat} {w w1 : World} {u : Value} (h : HalfN g 1 2 cInt64S ts cur w k) (hk : k < ts.length) (hg : g < w.heap.size) (hb : Below w.heap.size w w1) (hs : cur.size = n * 1) (hn : ts.length = n)
    (ho : w1.ownsRow w.heap.size 2 1 u ts[k].1.length (ts[k].1.map (Value.int .i64))) : HalfN g 1 2 cInt64S ts (cur.setIfInBounds (k * 1) (u)) (w1.setCell ⟨g, k * 1, none⟩ (u)) (k + 1) := by
  refine h.step cInt64S_len hk hg hb ho (fun p hp => ?_) (by simp) rfl rfl rfl (fun p hp => ?_) (fun j v hj => ?_)
  · rw [heap_setCell_other _ _ _ _ hp]
  · rw [Array.getElem?_setIfInBounds_ne (by omega)]
  · match j, hj with
    | 0, hj => obtain rfl : _ = v := Option.some.inj hj; simp [Array.getElem?_setIfInBounds]; omega
    | j + 1, hj => simp [cInt64S] at hj
end Go.Proofs.Ytghpefdleiebmaa
