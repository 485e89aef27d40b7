/-
  Records of 4 numbers (Ride): how they lie in memory, the walks of the laws' own helpers on them, and how arguments of these types read.
-/
import Derived.Test.YtcehkkamepdkoaaDoorRec
import Derived.Test.YtcehkkamepdkoaaDoorProg
import Derived.Outline
import Derived.LoopTactic
import Derived.StillTailTactics
import Derived.BigQuiet
import Derived.Deep.QuietTactic
import Derived.Deep.RegionHeld3
namespace Go.Proofs.YtcehkkamepdkoaaDoor
open Go.RowKit Go.ChangeShapes Go.WideShapes Go.Deep Go.Joins

abbrev TRide := Int × Int × Int × Int
/-- The cells of one. -/
def cRide (t : TRide) : List Value := [.int .i64 t.1, .int .i64 t.2.1, .int .i64 t.2.2.1, .int .i64 t.2.2.2]
theorem cRide_len (t : TRide) : (cRide t).length = 4 := rfl
def wfRide (t : TRide) : Prop := (Lit.int .i64 t.1).wf = true ∧ (Lit.int .i64 t.2.1).wf = true ∧ (Lit.int .i64 t.2.2.1).wf = true ∧ (Lit.int .i64 t.2.2.2).wf = true
theorem cRide_at {w : World} {b off : Nat} {ts : List TRide} (h : ∀ i (h : i < ts.length) (j : Nat) (v : Value), (cRide ts[i])[j]? = some v → w.cell? ⟨b, off + i * 4 + j, none⟩ = some v) (i : Nat) (hi : i < ts.length) :
    w.cell? ⟨b, off + i * 4, none⟩ = some (.int .i64 ts[i].1) ∧ w.cell? ⟨b, off + i * 4 + 1, none⟩ = some (.int .i64 ts[i].2.1) ∧ w.cell? ⟨b, off + i * 4 + 2, none⟩ = some (.int .i64 ts[i].2.2.1) ∧ w.cell? ⟨b, off + i * 4 + 3, none⟩ = some (.int .i64 ts[i].2.2.2) := ⟨h i hi 0 _ rfl, h i hi 1 _ rfl, h i hi 2 _ rfl, h i hi 3 _ rfl⟩
theorem cRide_box {w : World} {b : Nat} {t : TRide} (h : Box w b (cRide t)) : w.cell? ⟨b, 0, none⟩ = some (.int .i64 t.1) ∧ w.cell? ⟨b, 1, none⟩ = some (.int .i64 t.2.1) ∧ w.cell? ⟨b, 2, none⟩ = some (.int .i64 t.2.2.1) ∧ w.cell? ⟨b, 3, none⟩ = some (.int .i64 t.2.2.2) := ⟨h.2 0 _ rfl, h.2 1 _ rfl, h.2 2 _ rfl, h.2 3 _ rfl⟩
set_option maxHeartbeats 2000000 in
theorem eqRide_any (t u : TRide) (w : World) : Calls Tryd.prog 10 #[.agg #[.int .i64 t.1, .int .i64 t.2.1, .int .i64 t.2.2.1, .int .i64 t.2.2.2], .agg #[.int .i64 u.1, .int .i64 u.2.1, .int .i64 u.2.2.1, .int .i64 u.2.2.2]] w fun e w' => e = .returned (.bool (t == u)) ∧ Below w.heap.size w w' := by
  obtain ⟨t1, t2, t3, t4⟩ := t
  obtain ⟨u1, u2, u3, u4⟩ := u
  rcases eq_ways t1 u1 with ⟨⟨a1, b1⟩, e1⟩ | ⟨⟨a1, b1⟩, e1⟩
  rotate_left
  · clear e1
    go_enter Tryd.func10, Tryd.ntmps10
    go_wp2
    go_ret
    exact ⟨ret_bool (by simp_all), by repeat (first | exact Below.refl _ _ | refine Below.alloc ?_ (by simp; try omega) _ | refine Below.setCell ?_ (by simp; try omega) _)⟩
  · clear e1
    rcases eq_ways t2 u2 with ⟨⟨a2, b2⟩, e2⟩ | ⟨⟨a2, b2⟩, e2⟩
    rotate_left
    · clear e2
      go_enter Tryd.func10, Tryd.ntmps10
      go_wp2
      go_ret
      exact ⟨ret_bool (by simp_all), by repeat (first | exact Below.refl _ _ | refine Below.alloc ?_ (by simp; try omega) _ | refine Below.setCell ?_ (by simp; try omega) _)⟩
    · clear e2
      rcases eq_ways t3 u3 with ⟨⟨a3, b3⟩, e3⟩ | ⟨⟨a3, b3⟩, e3⟩
      rotate_left
      · clear e3
        go_enter Tryd.func10, Tryd.ntmps10
        go_wp2
        go_ret
        exact ⟨ret_bool (by simp_all), by repeat (first | exact Below.refl _ _ | refine Below.alloc ?_ (by simp; try omega) _ | refine Below.setCell ?_ (by simp; try omega) _)⟩
      · clear e3
        rcases eq_ways t4 u4 with ⟨⟨a4, b4⟩, e4⟩ | ⟨⟨a4, b4⟩, e4⟩
        rotate_left
        · clear e4
          go_enter Tryd.func10, Tryd.ntmps10
          go_wp2
          go_ret
          exact ⟨ret_bool (by simp_all), by repeat (first | exact Below.refl _ _ | refine Below.alloc ?_ (by simp; try omega) _ | refine Below.setCell ?_ (by simp; try omega) _)⟩
        · clear e4
          go_enter Tryd.func10, Tryd.ntmps10
          go_wp2
          go_ret
          exact ⟨ret_bool (by simp_all), by repeat (first | exact Below.refl _ _ | refine Below.alloc ?_ (by simp; try omega) _ | refine Below.setCell ?_ (by simp; try omega) _)⟩
set_option maxHeartbeats 1000000 in
theorem toRide_any (t : TRide) (w : World) : Calls Tryd.prog 6 #[.agg #[.int .i64 t.1, .int .i64 t.2.1, .int .i64 t.2.2.1, .int .i64 t.2.2.2]] w fun e w' => e = .returned (.agg #[.int .i64 t.1, .int .i64 t.2.1, .int .i64 t.2.2.1, .int .i64 t.2.2.2]) ∧ Below w.heap.size w w' := by
  go_enter Tryd.func6, Tryd.ntmps6
  go_wp2
  exact bodyPost_ret (v := .agg #[.int .i64 t.1, .int .i64 t.2.1, .int .i64 t.2.2.1, .int .i64 t.2.2.2]) (by simp [results, Tryd.results6, go_sem]) rfl ⟨rfl, (by repeat (first | exact Below.refl _ _ | refine Below.alloc ?_ (by simp; try omega) _ | refine Below.setCell ?_ (by simp; try omega) _))⟩
/-- A value is one of the laws' own. -/
def RideIn (v : Value) (t : TRide) : Prop := v = .agg #[.int .i64 t.1, .int .i64 t.2.1, .int .i64 t.2.2.1, .int .i64 t.2.2.2] ∧ wfRide t
theorem cellsRide : Tryd.prog.cellsOf 23 = 4 := by kernel_rfl
set_option maxRecDepth 100000 in
theorem open_Ride {H : Type} {enc : TypeId × Value → H} {w : World} {spare : Nat → Bool} {held : Bool} {r : Reach} {b0 : Nat} {v : Value} {d : DataW H} {p : List MemPlace}
    (hv : Value.okWide Tryd.prog w r b0 23 v) (h : DataW.Trod enc Tryd.prog w 0 spare held 23 v d p) : ∃ t, RideIn v t := by
  obtain ⟨c0, c1, c2, c3, y0, y1, y2, y3, m, rfl, rfl, rfl, hy0, hy1, hy2, hy3⟩ := Go.Joins.open_agg4 Tryd.underlying23 (by kernel_rfl) cellsRide hv h
  obtain ⟨k0, e0, _, f0⟩ := DataW.trod_int Tryd.underlying2 hy0
  obtain ⟨k1, e1, _, f1⟩ := DataW.trod_int Tryd.underlying2 hy1
  obtain ⟨k2, e2, _, f2⟩ := DataW.trod_int Tryd.underlying2 hy2
  obtain ⟨k3, e3, _, f3⟩ := DataW.trod_int Tryd.underlying2 hy3
  obtain rfl : c0 = .int .i64 k0 := by simpa using e0
  obtain rfl : c1 = .int .i64 k1 := by simpa using e1
  obtain rfl : c2 = .int .i64 k2 := by simpa using e2
  obtain rfl : c3 = .int .i64 k3 := by simpa using e3
  exact ⟨(k0, k1, k2, k3), rfl, f0, f1, f2, f3⟩
end Go.Proofs.YtcehkkamepdkoaaDoor
