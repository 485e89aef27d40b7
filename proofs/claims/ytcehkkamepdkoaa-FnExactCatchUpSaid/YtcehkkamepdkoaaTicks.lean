/-
  The walks of l03Ticks, countIn, ticks and TicksOfRide, the model's and the program's.
-/
import Derived.Test.YtcehkkamepdkoaaSpeedOf
namespace Go.Proofs.Ytcehkkamepdkoaa
open Go.RowKit

/-- Ticks and a code. -/
def tkA (t : R4) : Int := if rideB t then ticksR t else 0
theorem tkA_bad {t : R4} (h : rideB t = false) : tkA t = 0 := by unfold tkA; rw [h]; rfl
theorem tkA_good {t : R4} (h : rideB t = true) : tkA t = ticksR t := by unfold tkA; rw [h]; rfl
def ticksV (t : R4) : Value := .tuple #[.int .i64 (tkA t), .int .i64 (okC (rideB t))]

set_option maxHeartbeats 1000000 in
theorem l03Ticks_any (pb po : Nat) (t : R4) (w : World) (hv : rideB t = true) (p0 : w.cell? ⟨pb, po, none⟩ = some (.int .i64 t.1)) (p1 : w.cell? ⟨pb, po + 1, none⟩ = some (.int .i64 t.2.1)) (p2 : w.cell? ⟨pb, po + 2, none⟩ = some (.int .i64 t.2.2.1)) (p3 : w.cell? ⟨pb, po + 3, none⟩ = some (.int .i64 t.2.2.2)) :
    Calls Try.prog 55 #[.pointer (some ⟨pb, po, none⟩)] w fun e w' => e = .returned (.int .i64 (ticksR t)) ∧ ∃ m, w' = w.drewN m := by
  obtain ⟨h1, h2, h3, h4⟩ := ride_bounds hv
  have hp := rideB_parts hv
  obtain ⟨hm0, hm1⟩ := mul_le_of (a := t.1) (b := denR t) (A := 2000) (B := 1000) (by omega) (by omega) (by omega) (by omega)
  have hm2 : denR t ≤ t.1 * denR t := le_mul1 (by omega) (by omega)
  have hne : numR t ≠ 0 := by omega
  have hr : 0 ≤ t.1 * denR t + numR t - 1 := by omega
  go_enter Try.func55, Try.ntmps55
  go_wp2
  go_quiet (first | (go_at_call 51; refine Calls.quiet_of (l03Num_any pb po t _ hv p2)) | (go_at_call 52; refine Calls.quiet_of (l03Den_any pb po t _ hv p1 p3)))
  go_wp2
  go_ret
  exact ⟨rfl, _, rfl⟩

set_option maxHeartbeats 1000000 in
theorem countIn_gen (p q a b : Int) (w : World) (h1 : 0 ≤ a * q) (h2 : a * q ≤ 1152921504606846976) (h3 : 1 ≤ b * p) (h4 : b * p ≤ 1152921504606846976) : Calls Try.prog 70 #[.agg #[.int .i64 p, .int .i64 q], .agg #[.int .i64 a, .int .i64 b]] w fun e w' => e = .returned (.int .i64 ((a * q + b * p - 1) / (b * p))) ∧ Below w.heap.size w w' := by
  have hne : b * p ≠ 0 := by omega
  have hr : 0 ≤ a * q + b * p - 1 := by omega
  generalize hX : a * q = X at *
  generalize hY : b * p = Y at *
  have HX := Lib.hid hX
  have HY := Lib.hid hY
  have HC : Hid (∀ Z : Int, a * q = Z → Z = X) := fun Z h => h.symm.trans HX.out
  go_enter Try.func70, Try.ntmps70
  go_wp2
  go_quiet (fail)
  go_wp2
  go_ret
  exact ⟨rfl, (by repeat (first | exact Below.refl _ _ | exact HB.out | refine Below.drew ?_ | refine Below.drewN' ?_ _ | refine Below.alloc ?_ (by first | omega | (simp; try omega)) _ | refine Below.setCell ?_ (by first | omega | (simp; try omega)) _))⟩
theorem countIn_any (t : R4) (w : World) (hv : rideB t = true) : Calls Try.prog 70 #[.agg #[.int .i64 (spR t).1, .int .i64 (spR t).2], .agg #[.int .i64 t.1, .int .i64 1]] w fun e w' => e = .returned (.int .i64 (ticksR t)) ∧ Below w.heap.size w w' := by
  obtain ⟨h1, h2, h3, h4⟩ := sp_bounds hv
  have hp := rideB_parts hv
  obtain ⟨hm0, hm1⟩ := mul_le_of (a := t.1) (b := (spR t).2) (A := 2000) (B := 1000) (by omega) (by omega) (by omega) (by omega)
  have h := countIn_gen (spR t).1 (spR t).2 t.1 1 w hm0 (by omega) (by omega) (by omega)
  rw [Int.one_mul, ticks_low hv] at h
  exact h
set_option maxHeartbeats 2000000 in
theorem rticks_any (t : R4) (w : World) (hv : rideB t = true) : Calls Try.prog 56 #[.agg #[.int .i64 t.1, .int .i64 t.2.1, .int .i64 t.2.2.1, .int .i64 t.2.2.2]] w fun e w' => e = .returned (.int .i64 (ticksR t)) ∧ Below w.heap.size w w' := by
  obtain ⟨p0, p1, p2, p3⟩ := cRide_box (Box.alloc w (cRide t) 25)
  have B0 : Below w.heap.size w (w.alloc (.cells #[.int .i64 t.1, .int .i64 t.2.1, .int .i64 t.2.2.1, .int .i64 t.2.2.2] 25)) := (Below.refl _ _).alloc (Nat.le_refl _) _
  go_enter Try.func56, Try.ntmps56
  go_wp2_with fail
  go_region_held3 (fun w' => w'.cell? ⟨w.heap.size, 0, none⟩ = some (.int .i64 t.1) ∧ w'.cell? ⟨w.heap.size, 1, none⟩ = some (.int .i64 t.2.1) ∧ w'.cell? ⟨w.heap.size, 2, none⟩ = some (.int .i64 t.2.2.1) ∧ w'.cell? ⟨w.heap.size, 3, none⟩ = some (.int .i64 t.2.2.2))
    (first | exact ⟨p0, p1, p2, p3⟩ | exact ⟨(hb1.cell (p := ⟨_, _, none⟩) (by simp)).trans p0, (hb1.cell (p := ⟨_, _, none⟩) (by simp)).trans p1, (hb1.cell (p := ⟨_, _, none⟩) (by simp)).trans p2, (hb1.cell (p := ⟨_, _, none⟩) (by simp)).trans p3⟩ | exact ⟨(hb2.cell (p := ⟨_, _, none⟩) (by have := hb1.size; simp at this; show w.heap.size < w1.heap.size; omega)).trans ((hb1.cell (p := ⟨_, _, none⟩) (by simp)).trans p0), (hb2.cell (p := ⟨_, _, none⟩) (by have := hb1.size; simp at this; show w.heap.size < w1.heap.size; omega)).trans ((hb1.cell (p := ⟨_, _, none⟩) (by simp)).trans p1), (hb2.cell (p := ⟨_, _, none⟩) (by have := hb1.size; simp at this; show w.heap.size < w1.heap.size; omega)).trans ((hb1.cell (p := ⟨_, _, none⟩) (by simp)).trans p2), (hb2.cell (p := ⟨_, _, none⟩) (by have := hb1.size; simp at this; show w.heap.size < w1.heap.size; omega)).trans ((hb1.cell (p := ⟨_, _, none⟩) (by simp)).trans p3)⟩)
    (first | (go_at_call 54; refine (speed_any t _ hv).mono ?_; rintro e w1 ⟨rfl, hb1⟩) | (go_at_call 70; refine (countIn_any t _ hv).mono ?_; rintro e w2 ⟨rfl, hb2⟩))
  have hbel' := B0.drew.trans ((hb1.mono (by simp)).trans (hb2.mono (by have := hb1.size; simp at this; omega)))
  go_wp2
  go_ret
  exact ⟨rfl, hbel'⟩
set_option maxHeartbeats 1000000 in
theorem specTicksOfRide_any (t : R4) (w : World) : Calls Try.prog 20 #[.agg #[.int .i64 t.1, .int .i64 t.2.1, .int .i64 t.2.2.1, .int .i64 t.2.2.2]] w fun e w' => e = .returned (ticksV t) ∧ Below w.heap.size w w' := by
  have P1 := Box.alloc w (cRide t) 25
  go_enter Try.func20, Try.ntmps20
  go_wp2_with fail
  refine (l03Ok_any _ 0 t _ (by simp [go_sem]) (by simp [go_sem]) (by simp [go_sem]) (by simp [go_sem])).mono ?_
  rintro e w1 ⟨rfl, hb1⟩
  have P2 := P1.below hb1
  have HB : Hid (Below w.heap.size w w1) := (show Below w.heap.size w _ from (by repeat (first | exact Below.refl _ _ | exact HB.out | refine Below.drew ?_ | refine Below.drewN' ?_ _ | refine Below.alloc ?_ (by first | omega | (simp; try omega)) _ | refine Below.setCell ?_ (by first | omega | (simp; try omega)) _))).trans (hb1.mono (by simp))
  clear hb1 P1
  cases hv : rideB t with
  | false =>
    go_wp2
    refine bodyPost_ret (v := .tuple #[.int .i64 0, .int .i64 1]) (by simp [results, Try.results20, go_sem]) rfl ⟨by unfold ticksV okC; rw [tkA_bad hv, hv]; rfl, (by repeat (first | exact Below.refl _ _ | exact HB.out | refine Below.drew ?_ | refine Below.drewN' ?_ _ | refine Below.alloc ?_ (by first | omega | (simp; try omega)) _ | refine Below.setCell ?_ (by first | omega | (simp; try omega)) _))⟩
  | true =>
    obtain ⟨x0, x1, x2, x3⟩ := cRide_box P2
    go_wp2_with fail
    refine (l03Ticks_any _ 0 t _ hv x0 x1 x2 x3).mono ?_
    rintro e w2 ⟨rfl, m2, hw2⟩
    have HB2 : Hid (Below w.heap.size w w2) := by rw [hw2]; exact Below.drewN' HB.out _
    clear hw2 HB
    have HB := HB2
    go_wp2
    refine bodyPost_ret (v := .tuple #[.int .i64 (ticksR t), .int .i64 0]) (by simp [results, Try.results20, go_sem]) rfl ⟨by unfold ticksV okC; rw [tkA_good hv, hv]; rfl, (by repeat (first | exact Below.refl _ _ | exact HB.out | refine Below.drew ?_ | refine Below.drewN' ?_ _ | refine Below.alloc ?_ (by first | omega | (simp; try omega)) _ | refine Below.setCell ?_ (by first | omega | (simp; try omega)) _))⟩
set_option maxHeartbeats 1000000 in
theorem implTicksOfRide_any (t : R4) (w : World) : Calls Try.prog 21 #[.agg #[.int .i64 t.1, .int .i64 t.2.1, .int .i64 t.2.2.1, .int .i64 t.2.2.2]] w fun e w' => e = .returned (ticksV t) ∧ Below w.heap.size w w' := by
  have P1 := Box.alloc w (cRide t) 25
  have Q1 := Box.alloc' (w.alloc (.cells (cRide t).toArray 25)) (cRide t) 25 (w.heap.size + 1) (by simp)
  have P2 := P1.below ((Below.refl _ _).alloc (Nat.le_refl _) (.cells (cRide t).toArray 25))
  have Q2 := Box.RR (k := 4) Q1
  clear P1 Q1
  go_enter Try.func21, Try.ntmps21
  go_wp2_with fail
  refine (checkRides_any _ [t] 1 _ _ rfl Q2 (by omega)).mono ?_
  rintro e w1 ⟨rfl, hb1⟩
  have P3 := P2.below hb1
  have HB : Hid (Below w.heap.size w w1) := (show Below w.heap.size w _ from (by repeat (first | exact Below.refl _ _ | exact HB.out | refine Below.drew ?_ | refine Below.drewN' ?_ _ | refine Below.alloc ?_ (by first | omega | (simp; try omega)) _ | refine Below.setCell ?_ (by first | omega | (simp; try omega)) _))).trans (hb1.mono (by simp; omega))
  clear hb1 P2
  rw [codeR_one]
  cases hv : rideB t with
  | false =>
    have hok : okC false = 1 := rfl
    rw [hok]
    go_wp2
    refine bodyPost_ret (v := .tuple #[.int .i64 0, .int .i64 1]) (by simp [results, Try.results21, go_sem]) rfl ⟨by unfold ticksV okC; rw [tkA_bad hv, hv]; rfl, (by repeat (first | exact Below.refl _ _ | exact HB.out | refine Below.drew ?_ | refine Below.drewN' ?_ _ | refine Below.alloc ?_ (by first | omega | (simp; try omega)) _ | refine Below.setCell ?_ (by first | omega | (simp; try omega)) _))⟩
  | true =>
    obtain ⟨x0, x1, x2, x3⟩ := cRide_box P3
    have hok : okC true = 0 := rfl
    rw [hok]
    go_wp2_with fail
    refine (rticks_any t _ hv).mono ?_
    rintro e w2 ⟨rfl, hb2⟩
    have HB2 := Lib.hid (HB.out.trans (hb2.mono HB.out.size))
    clear hb2 HB
    have HB := HB2
    go_wp2
    refine bodyPost_ret (v := .tuple #[.int .i64 (ticksR t), .int .i64 0]) (by simp [results, Try.results21, go_sem]) rfl ⟨by unfold ticksV okC; rw [tkA_good hv, hv]; rfl, (by repeat (first | exact Below.refl _ _ | exact HB.out | refine Below.drew ?_ | refine Below.drewN' ?_ _ | refine Below.alloc ?_ (by first | omega | (simp; try omega)) _ | refine Below.setCell ?_ (by first | omega | (simp; try omega)) _))⟩
end Go.Proofs.Ytcehkkamepdkoaa
