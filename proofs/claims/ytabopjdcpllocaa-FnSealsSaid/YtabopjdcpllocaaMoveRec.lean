/-
  Records of 3 numbers (Move): how they lie in memory, the walks of the laws' own helpers on them, and how arguments of these types read.
-/
import Derived.Test.YtabopjdcpllocaaRec
import Derived.Test.YtabopjdcpllocaaProg
import Derived.Outline
import Derived.LoopTactic
import Derived.StillTailTactics
import Derived.BigQuiet
import Derived.Deep.QuietTactic
import Derived.Deep.RegionHeld3
namespace Go.Proofs.Ytabopjdcpllocaa
open Go.RowKit Go.ChangeShapes Go.WideShapes Go.Deep Go.Joins

abbrev TMove := Int × Int × Int
/-- The cells of one. -/
def cMove (t : TMove) : List Value := [.int .i64 t.1, .int .i64 t.2.1, .int .i64 t.2.2]
theorem cMove_len (t : TMove) : (cMove t).length = 3 := rfl
def wfMove (t : TMove) : Prop := (Lit.int .i64 t.1).wf = true ∧ (Lit.int .i64 t.2.1).wf = true ∧ (Lit.int .i64 t.2.2).wf = true
theorem cMove_at {w : World} {b off : Nat} {ts : List TMove} (h : ∀ i (h : i < ts.length) (j : Nat) (v : Value), (cMove ts[i])[j]? = some v → w.cell? ⟨b, off + i * 3 + j, none⟩ = some v) (i : Nat) (hi : i < ts.length) :
    w.cell? ⟨b, off + i * 3, none⟩ = some (.int .i64 ts[i].1) ∧ w.cell? ⟨b, off + i * 3 + 1, none⟩ = some (.int .i64 ts[i].2.1) ∧ w.cell? ⟨b, off + i * 3 + 2, none⟩ = some (.int .i64 ts[i].2.2) := ⟨h i hi 0 _ rfl, h i hi 1 _ rfl, h i hi 2 _ rfl⟩
theorem cMove_box {w : World} {b : Nat} {t : TMove} (h : Box w b (cMove t)) : w.cell? ⟨b, 0, none⟩ = some (.int .i64 t.1) ∧ w.cell? ⟨b, 1, none⟩ = some (.int .i64 t.2.1) ∧ w.cell? ⟨b, 2, none⟩ = some (.int .i64 t.2.2) := ⟨h.2 0 _ rfl, h.2 1 _ rfl, h.2 2 _ rfl⟩
/-- A value is one of the laws' own. -/
def MoveIn (v : Value) (t : TMove) : Prop := v = .agg #[.int .i64 t.1, .int .i64 t.2.1, .int .i64 t.2.2] ∧ wfMove t
/-- A value is a slice of them. -/
def MovesIn (w : World) (v : Value) (x : List TMove) : Prop :=
  ∃ a n cap, v = .slice a n cap ∧ Hid (x.length = n) ∧ n ≤ maxLen ∧ RR 3 cMove w a x ∧ ∀ t ∈ x, wfMove t
theorem info44 : (Try.prog.info? 44).map (fun i => (i.zero, i.size, i.bytes)) = some (some (.agg #[.int .i64 0, .int .i64 0, .int .i64 0]), 3, 24) := by kernel_rfl
theorem cMove_cells {w : World} {g : Nat} {cur : Array Value} {e : TypeId} (h : w.heap[g]? = some (.cells cur e (0, 0))) (k : Nat) (hk : k * 3 + 2 < cur.size) :
    (∃ v, w.cell? ⟨g, k * 3, none⟩ = some v) ∧ (∃ v, w.cell? ⟨g, k * 3 + 1, none⟩ = some v) ∧ (∃ v, w.cell? ⟨g, k * 3 + 2, none⟩ = some v) ∧ w.frozen? ⟨g, k * 3, none⟩ = false ∧ w.frozen? ⟨g, k * 3 + 1, none⟩ = false ∧ w.frozen? ⟨g, k * 3 + 2, none⟩ = false := by
  refine ⟨⟨cur[k * 3], ?_⟩, ⟨cur[k * 3 + 1], ?_⟩, ⟨cur[k * 3 + 2], ?_⟩, ?_, ?_, ?_⟩
  · rw [cell_of_row w g _ cur e (0, 0) h]; exact Array.getElem?_eq_getElem _
  · rw [cell_of_row w g _ cur e (0, 0) h]; exact Array.getElem?_eq_getElem _
  · rw [cell_of_row w g _ cur e (0, 0) h]; exact Array.getElem?_eq_getElem _
  all_goals exact frozen_of_row w g _ cur e h
theorem cMove_step {ts : List TMove} {cur : Array Value} {k : Nat} (h : FilledR 3 cMove ts cur k) (hs : cur.size = ts.length * 3) (hk : k < ts.length) : FilledR 3 cMove ts (((cur.setIfInBounds (k * 3) (.int .i64 ts[k].1)).setIfInBounds (k * 3 + 1) (.int .i64 ts[k].2.1)).setIfInBounds (k * 3 + 2) (.int .i64 ts[k].2.2)) (k + 1) := by
  refine h.next cMove_len hk (fun p hp => ?_) (fun j v hj => ?_)
  · rw [Array.getElem?_setIfInBounds_ne (by omega), Array.getElem?_setIfInBounds_ne (by omega), Array.getElem?_setIfInBounds_ne (by omega)]
  · match j, hj with
    | 0, hj => obtain rfl : _ = v := Option.some.inj hj; simp [Array.getElem?_setIfInBounds]; omega
    | 1, hj => obtain rfl : _ = v := Option.some.inj hj; simp [Array.getElem?_setIfInBounds]; omega
    | 2, hj => obtain rfl : _ = v := Option.some.inj hj; simp [Array.getElem?_setIfInBounds]; omega
    | j + 3, hj => simp [cMove] at hj
end Go.Proofs.Ytabopjdcpllocaa
