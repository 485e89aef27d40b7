/-
  Records of 2 numbers (Fraction): how they lie in memory, the walks of the laws' own helpers on them, and how arguments of these types read.
-/
import Derived.Test.YtcehkkamepdkoaaRec
import Derived.Test.YtcehkkamepdkoaaProg
import Derived.Outline
import Derived.LoopTactic
import Derived.StillTailTactics
import Derived.BigQuiet
import Derived.Deep.QuietTactic
import Derived.Deep.RegionHeld3
namespace Go.Proofs.Ytcehkkamepdkoaa
open Go.RowKit Go.ChangeShapes Go.WideShapes Go.Deep Go.Joins

abbrev TFraction := Int × Int
/-- The cells of one. -/
def cFraction (t : TFraction) : List Value := [.int .i64 t.1, .int .i64 t.2]
theorem cFraction_len (t : TFraction) : (cFraction t).length = 2 := rfl
def wfFraction (t : TFraction) : Prop := (Lit.int .i64 t.1).wf = true ∧ (Lit.int .i64 t.2).wf = true
theorem cFraction_at {w : World} {b off : Nat} {ts : List TFraction} (h : ∀ i (h : i < ts.length) (j : Nat) (v : Value), (cFraction ts[i])[j]? = some v → w.cell? ⟨b, off + i * 2 + j, none⟩ = some v) (i : Nat) (hi : i < ts.length) :
    w.cell? ⟨b, off + i * 2, none⟩ = some (.int .i64 ts[i].1) ∧ w.cell? ⟨b, off + i * 2 + 1, none⟩ = some (.int .i64 ts[i].2) := ⟨h i hi 0 _ rfl, h i hi 1 _ rfl⟩
theorem cFraction_box {w : World} {b : Nat} {t : TFraction} (h : Box w b (cFraction t)) : w.cell? ⟨b, 0, none⟩ = some (.int .i64 t.1) ∧ w.cell? ⟨b, 1, none⟩ = some (.int .i64 t.2) := ⟨h.2 0 _ rfl, h.2 1 _ rfl⟩
set_option maxHeartbeats 2000000 in
theorem eqFraction_any (t u : TFraction) (w : World) : Calls Try.prog 19 #[.agg #[.int .i64 t.1, .int .i64 t.2], .agg #[.int .i64 u.1, .int .i64 u.2]] w fun e w' => e = .returned (.bool (t == u)) ∧ Below w.heap.size w w' := by
  obtain ⟨t1, t2⟩ := t
  obtain ⟨u1, u2⟩ := u
  rcases eq_ways t1 u1 with ⟨⟨a1, b1⟩, e1⟩ | ⟨⟨a1, b1⟩, e1⟩
  rotate_left
  · clear e1
    go_enter Try.func19, Try.ntmps19
    go_wp2
    go_ret
    exact ⟨ret_bool (by simp_all), by repeat (first | exact Below.refl _ _ | refine Below.alloc ?_ (by simp; try omega) _ | refine Below.setCell ?_ (by simp; try omega) _)⟩
  · clear e1
    rcases eq_ways t2 u2 with ⟨⟨a2, b2⟩, e2⟩ | ⟨⟨a2, b2⟩, e2⟩
    rotate_left
    · clear e2
      go_enter Try.func19, Try.ntmps19
      go_wp2
      go_ret
      exact ⟨ret_bool (by simp_all), by repeat (first | exact Below.refl _ _ | refine Below.alloc ?_ (by simp; try omega) _ | refine Below.setCell ?_ (by simp; try omega) _)⟩
    · clear e2
      go_enter Try.func19, Try.ntmps19
      go_wp2
      go_ret
      exact ⟨ret_bool (by simp_all), by repeat (first | exact Below.refl _ _ | refine Below.alloc ?_ (by simp; try omega) _ | refine Below.setCell ?_ (by simp; try omega) _)⟩
end Go.Proofs.Ytcehkkamepdkoaa
