/-
  The walks of SpeedOf, the model's and the program's.
-/
import Derived.Test.YtcehkkamepdkoaaRideSpeed
namespace Go.Proofs.Ytcehkkamepdkoaa
open Go.RowKit

def spA (t : R4) : Int × Int := if rideB t then spR t else (0, 0)
def okC (b : Bool) : Int := if b then 0 else 1
theorem spA_bad {t : R4} (h : rideB t = false) : spA t = (0, 0) := by unfold spA; rw [h]; rfl
theorem spA_good {t : R4} (h : rideB t = true) : spA t = spR t := by unfold spA; rw [h]; rfl
theorem codeR_one (t : R4) : codeR [t] = okC (rideB t) := by unfold codeR okC; simp
/-- A speed and a code. -/
def speedV (t : R4) : Value := .tuple #[.agg #[.int .i64 (spA t).1, .int .i64 (spA t).2], .int .i64 (okC (rideB t))]
theorem blk_cells {w : World} {g : Nat} {x y : Value} {e : TypeId} (h : w.heap[g]? = some (.cells #[x, y] e (0, 0))) : (w.cell? ⟨g, 0, none⟩ = some x ∧ w.cell? ⟨g, 1, none⟩ = some y) ∧ w.frozen? ⟨g, 0, none⟩ = false ∧ w.frozen? ⟨g, 1, none⟩ = false ∧ g < w.heap.size := by
  have c0 := cell_of_row w g 0 _ _ _ h
  have c1 := cell_of_row w g 1 _ _ _ h
  have f0 := frozen_of_row w g 0 _ _ h
  have f1 := frozen_of_row w g 1 _ _ h
  simp at c0 c1
  exact ⟨⟨c0, c1⟩, f0, f1, (Array.getElem?_eq_some_iff.1 h).1⟩

set_option maxHeartbeats 1000000 in
theorem specSpeedOf_any (t : R4) (w : World) : Calls Try.prog 17 #[.agg #[.int .i64 t.1, .int .i64 t.2.1, .int .i64 t.2.2.1, .int .i64 t.2.2.2]] w fun e w' => e = .returned (speedV t) ∧ Below w.heap.size w w' := by
  have P1 := (Box.alloc w (cRide t) 25).below ((Below.refl _ _).alloc (Nat.le_refl _) (.cells #[.int .i64 0, .int .i64 0] 29))
  go_enter Try.func17, Try.ntmps17
  go_wp2_with fail
  refine (l03Ok_any _ 0 t _ (by simp [go_sem]) (by simp [go_sem]) (by simp [go_sem]) (by simp [go_sem])).mono ?_
  rintro e w1 ⟨rfl, hb1⟩
  have G1 : w1.heap[w.heap.size + 1]? = some (.cells #[.int .i64 0, .int .i64 0] 29 (0, 0)) := (hb1.block _ (by simp)).trans (heap_alloc_at _ _ _ (by simp))
  have P2 := P1.below hb1
  have HB : Hid (Below w.heap.size w w1) := (show Below w.heap.size w _ from (by repeat (first | exact Below.refl _ _ | exact HB.out | refine Below.drew ?_ | refine Below.drewN' ?_ _ | refine Below.alloc ?_ (by first | omega | (simp; try omega)) _ | refine Below.setCell ?_ (by first | omega | (simp; try omega)) _))).trans (hb1.mono (by simp; omega))
  clear hb1 P1
  cases hv : rideB t with
  | false =>
    obtain ⟨⟨c0, c1⟩, f0, f1, hlt⟩ := blk_cells G1
    go_wp2
    refine bodyPost_ret (v := .tuple #[.agg #[.int .i64 0, .int .i64 0], .int .i64 1]) (by simp [results, Try.results17, go_sem, c0, c1]) rfl ⟨by unfold speedV okC; rw [spA_bad hv, hv]; rfl, ?_⟩
    exact (by repeat (first | exact Below.refl _ _ | exact HB.out | refine Below.drew ?_ | refine Below.drewN' ?_ _ | refine Below.alloc ?_ (by first | omega | (simp; try omega)) _ | refine Below.setCell ?_ (by first | omega | (simp; try omega)) _))
  | true =>
    obtain ⟨h1, h2, h3, h4⟩ := ride_bounds hv
    obtain ⟨x0, x1, x2, x3⟩ := cRide_box P2
    go_wp2_with fail
    refine (l03Num_any _ 0 t _ hv x2).mono ?_
    rintro e w2 ⟨rfl, m2, hw2⟩
    have hb2 : Below w1.heap.size w1 w2 := by rw [hw2]; exact Below.drewN' (Below.refl _ _) _
    clear hw2
    obtain ⟨y0, y1, y2, y3⟩ := cRide_box (P2.below hb2)
    have G2 := (hb2.block _ (blk_cells G1).2.2.2).trans G1
    have HB2 := Lib.hid (HB.out.trans (hb2.mono HB.out.size))
    clear hb2 P2 G1 HB x0 x1 x2 x3
    go_wp2_with fail
    refine (l03Den_any _ 0 t _ hv y1 y3).mono ?_
    rintro e w3 ⟨rfl, m3, hw3⟩
    have hb3 : Below w2.heap.size w2 w3 := by rw [hw3]; exact Below.drewN' (Below.refl _ _) _
    clear hw3
    have G3 := (hb3.block _ (blk_cells G2).2.2.2).trans G2
    have HB3 := Lib.hid (HB2.out.trans (hb3.mono HB2.out.size))
    clear hb3 G2 HB2 y0 y1 y2 y3
    go_wp2_with fail
    refine (l02Make_any (numR t) (denR t) _ (by omega) (by omega) (by omega) (by omega)).mono ?_
    rintro e w4 ⟨rfl, hb4⟩
    obtain ⟨⟨c0, c1⟩, f0, f1, hlt⟩ := blk_cells ((hb4.block _ (blk_cells G3).2.2.2).trans G3)
    have HB := Lib.hid (HB3.out.trans (hb4.mono HB3.out.size))
    clear hb4 G3 HB3
    go_wp2
    refine bodyPost_ret (v := .tuple #[.agg #[.int .i64 (spR t).1, .int .i64 (spR t).2], .int .i64 0]) (by simp [results, Try.results17, go_sem, c0, c1, spR]) rfl ⟨by unfold speedV okC; rw [spA_good hv, hv]; rfl, ?_⟩
    exact (by repeat (first | exact Below.refl _ _ | exact HB.out | refine Below.drew ?_ | refine Below.drewN' ?_ _ | refine Below.alloc ?_ (by first | omega | (simp; try omega)) _ | refine Below.setCell ?_ (by first | omega | (simp; try omega)) _))

set_option maxHeartbeats 1000000 in
theorem implSpeedOf_any (t : R4) (w : World) : Calls Try.prog 18 #[.agg #[.int .i64 t.1, .int .i64 t.2.1, .int .i64 t.2.2.1, .int .i64 t.2.2.2]] w fun e w' => e = .returned (speedV t) ∧ Below w.heap.size w w' := by
  have P1 := (Box.alloc w (cRide t) 25).below ((Below.refl _ _).alloc (Nat.le_refl _) (.cells #[.int .i64 0, .int .i64 0] 29))
  have Q1 := Box.alloc' ((w.alloc (.cells (cRide t).toArray 25)).alloc (.cells #[.int .i64 0, .int .i64 0] 29)) (cRide t) 25 (w.heap.size + 1 + 1) (by simp)
  have P2 := P1.below ((Below.refl _ _).alloc (Nat.le_refl _) (.cells (cRide t).toArray 25))
  have Q2 := Box.RR (k := 4) Q1
  clear P1 Q1
  go_enter Try.func18, Try.ntmps18
  go_wp2_with fail
  refine (checkRides_any _ [t] 1 _ _ rfl Q2 (by omega)).mono ?_
  rintro e w1 ⟨rfl, hb1⟩
  have G1 : w1.heap[w.heap.size + 1]? = some (.cells #[.int .i64 0, .int .i64 0] 29 (0, 0)) := (hb1.block _ (by simp)).trans ((Below.heap_alloc _ _ _ (by simp)).trans (heap_alloc_at _ _ _ (by simp)))
  have P3 := P2.below hb1
  have HB : Hid (Below w.heap.size w w1) := (show Below w.heap.size w _ from (by repeat (first | exact Below.refl _ _ | exact HB.out | refine Below.drew ?_ | refine Below.drewN' ?_ _ | refine Below.alloc ?_ (by first | omega | (simp; try omega)) _ | refine Below.setCell ?_ (by first | omega | (simp; try omega)) _))).trans (hb1.mono (by simp; omega))
  clear hb1 P2
  rw [codeR_one]
  cases hv : rideB t with
  | false =>
    obtain ⟨⟨c0, c1⟩, f0, f1, hlt⟩ := blk_cells G1
    have hok : okC false = 1 := rfl
    rw [hok]
    go_wp2
    refine bodyPost_ret (v := .tuple #[.agg #[.int .i64 0, .int .i64 0], .int .i64 1]) (by simp [results, Try.results18, go_sem, c0, c1]) rfl ⟨by unfold speedV okC; rw [spA_bad hv, hv]; rfl, ?_⟩
    exact (by repeat (first | exact Below.refl _ _ | exact HB.out | refine Below.drew ?_ | refine Below.drewN' ?_ _ | refine Below.alloc ?_ (by first | omega | (simp; try omega)) _ | refine Below.setCell ?_ (by first | omega | (simp; try omega)) _))
  | true =>
    obtain ⟨x0, x1, x2, x3⟩ := cRide_box P3
    have hok : okC true = 0 := rfl
    rw [hok]
    go_wp2_with fail
    refine (speed_any t _ hv).mono ?_
    rintro e w2 ⟨rfl, hb2⟩
    obtain ⟨⟨c0, c1⟩, f0, f1, hlt⟩ := blk_cells ((hb2.block _ (blk_cells G1).2.2.2).trans G1)
    have HB2 := Lib.hid (HB.out.trans (hb2.mono HB.out.size))
    clear hb2 G1 HB
    have HB := HB2
    go_wp2
    refine bodyPost_ret (v := .tuple #[.agg #[.int .i64 (spR t).1, .int .i64 (spR t).2], .int .i64 0]) (by simp [results, Try.results18, go_sem, c0, c1]) rfl ⟨by unfold speedV okC; rw [spA_good hv, hv]; rfl, ?_⟩
    exact (by repeat (first | exact Below.refl _ _ | exact HB.out | refine Below.drew ?_ | refine Below.drewN' ?_ _ | refine Below.alloc ?_ (by first | omega | (simp; try omega)) _ | refine Below.setCell ?_ (by first | omega | (simp; try omega)) _))
end Go.Proofs.Ytcehkkamepdkoaa
