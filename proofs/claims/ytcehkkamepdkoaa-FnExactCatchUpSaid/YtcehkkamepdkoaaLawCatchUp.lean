/-
  The walk of the law FnExactCatchUp: it returns true at every argument.
-/
import Derived.Test.YtcehkkamepdkoaaCatch
namespace Go.Proofs.Ytcehkkamepdkoaa.fnExactCatchUp
open Go.RowKit
set_option maxRecDepth 100000 in
set_option maxHeartbeats 4000000 in
theorem walk (v : Value) (t : TRide) {w : World} (hx : RideIn v t) (v' : Value) (u : TRide) (hx' : RideIn v' u) (x : Int) (_wx : (Lit.int .i64 x).wf = true) : Calls Try.prog 10 #[v, v', .int .i64 x] w fun e w' => e = .returned (.bool true) ∧ Below w.heap.size w w' := by
  obtain ⟨rfl, _⟩ := hx
  obtain ⟨rfl, _⟩ := hx'
  have P0 := (Box.alloc w (cRide t) 23).below ((Below.refl _ _).alloc (Nat.le_refl _) (.cells (cRide u).toArray 23))
  have Q0 := Box.alloc' (w.alloc (.cells (cRide t).toArray 23)) (cRide u) 23 (w.heap.size + 1) (by simp)
  have HB0 : Hid (Below w.heap.size w ((w.alloc (.cells #[.int .i64 t.1, .int .i64 t.2.1, .int .i64 t.2.2.1, .int .i64 t.2.2.2] 23)).alloc (.cells #[.int .i64 u.1, .int .i64 u.2.1, .int .i64 u.2.2.1, .int .i64 u.2.2.2] 23))) := ((Below.refl _ _).alloc (Nat.le_refl _) _).alloc (by simp) _
  have HK : Hid (∀ w', Below ((w.alloc (.cells #[.int .i64 t.1, .int .i64 t.2.1, .int .i64 t.2.2.1, .int .i64 t.2.2.2] 23)).alloc (.cells #[.int .i64 u.1, .int .i64 u.2.1, .int .i64 u.2.2.1, .int .i64 u.2.2.2] 23)).heap.size ((w.alloc (.cells #[.int .i64 t.1, .int .i64 t.2.1, .int .i64 t.2.2.1, .int .i64 t.2.2.2] 23)).alloc (.cells #[.int .i64 u.1, .int .i64 u.2.1, .int .i64 u.2.2.1, .int .i64 u.2.2.2] 23)) w' → w'.cell? ⟨w.heap.size, 0, none⟩ = some (.int .i64 t.1) ∧ w'.cell? ⟨w.heap.size, 1, none⟩ = some (.int .i64 t.2.1) ∧ w'.cell? ⟨w.heap.size, 2, none⟩ = some (.int .i64 t.2.2.1) ∧ w'.cell? ⟨w.heap.size, 3, none⟩ = some (.int .i64 t.2.2.2) ∧ w'.cell? ⟨w.heap.size + 1, 0, none⟩ = some (.int .i64 u.1) ∧ w'.cell? ⟨w.heap.size + 1, 1, none⟩ = some (.int .i64 u.2.1) ∧ w'.cell? ⟨w.heap.size + 1, 2, none⟩ = some (.int .i64 u.2.2.1) ∧ w'.cell? ⟨w.heap.size + 1, 3, none⟩ = some (.int .i64 u.2.2.2)) := fun w' hh => by
    obtain ⟨x0, x1, x2, x3⟩ := cRide_box (P0.below hh)
    obtain ⟨y0, y1, y2, y3⟩ := cRide_box (Q0.below hh)
    exact ⟨x0, x1, x2, x3, y0, y1, y2, y3⟩
  have d1 := (Below.refl ((w.alloc (.cells #[.int .i64 t.1, .int .i64 t.2.1, .int .i64 t.2.2.1, .int .i64 t.2.2.2] 23)).alloc (.cells #[.int .i64 u.1, .int .i64 u.2.1, .int .i64 u.2.2.1, .int .i64 u.2.2.2] 23)).heap.size ((w.alloc (.cells #[.int .i64 t.1, .int .i64 t.2.1, .int .i64 t.2.2.1, .int .i64 t.2.2.2] 23)).alloc (.cells #[.int .i64 u.1, .int .i64 u.2.1, .int .i64 u.2.2.1, .int .i64 u.2.2.2] 23))).drew
  have HS : Hid (∀ w', Calls Try.prog 33 #[.agg #[.int .i64 t.1, .int .i64 t.2.1, .int .i64 t.2.2.1, .int .i64 t.2.2.2], .agg #[.int .i64 u.1, .int .i64 u.2.1, .int .i64 u.2.2.1, .int .i64 u.2.2.2], .int .i64 x] w' fun e w'' => e = .returned (.tuple #[.int .i64 (cuA t u x).1, .int .i64 (cuA t u x).2]) ∧ Below w'.heap.size w' w'') := fun w' => specCatchUp_any t u x w'
  have HI : Hid (∀ w', Calls Try.prog 34 #[.agg #[.int .i64 t.1, .int .i64 t.2.1, .int .i64 t.2.2.1, .int .i64 t.2.2.2], .agg #[.int .i64 u.1, .int .i64 u.2.1, .int .i64 u.2.2.1, .int .i64 u.2.2.2], .int .i64 x] w' fun e w'' => e = .returned (.tuple #[.int .i64 (cuA t u x).1, .int .i64 (cuA t u x).2]) ∧ Below w'.heap.size w' w'') := fun w' => implCatchUp_any t u x w'
  clear P0 Q0
  go_enter Try.func10, Try.ntmps10
  go_wp2_with fail
  generalize hq : ((w.alloc (.cells #[.int .i64 t.1, .int .i64 t.2.1, .int .i64 t.2.2.1, .int .i64 t.2.2.2] 23)).alloc (.cells #[.int .i64 u.1, .int .i64 u.2.1, .int .i64 u.2.2.1, .int .i64 u.2.2.2] 23)) = w0 at HK d1 HB0 ⊢
  go_region_held3 (fun w' => w'.cell? ⟨w.heap.size, 0, none⟩ = some (.int .i64 t.1) ∧ w'.cell? ⟨w.heap.size, 1, none⟩ = some (.int .i64 t.2.1) ∧ w'.cell? ⟨w.heap.size, 2, none⟩ = some (.int .i64 t.2.2.1) ∧ w'.cell? ⟨w.heap.size, 3, none⟩ = some (.int .i64 t.2.2.2) ∧ w'.cell? ⟨w.heap.size + 1, 0, none⟩ = some (.int .i64 u.1) ∧ w'.cell? ⟨w.heap.size + 1, 1, none⟩ = some (.int .i64 u.2.1) ∧ w'.cell? ⟨w.heap.size + 1, 2, none⟩ = some (.int .i64 u.2.2.1) ∧ w'.cell? ⟨w.heap.size + 1, 3, none⟩ = some (.int .i64 u.2.2.2))
    (first | exact HK.out _ (Below.refl _ _) | exact HK.out _ d1 | exact HK.out _ (d1.trans hb1a) | exact HK.out _ ((d1.trans hb1a).trans (hb1b.mono (d1.trans hb1a).size)) | exact HK.out _ (((d1.trans hb1a).trans (hb1b.mono (d1.trans hb1a).size)).trans (hb1c.mono ((d1.trans hb1a).trans (hb1b.mono (d1.trans hb1a).size)).size)))
    (first | (go_at_call_of 15 t; refine (toRide_any t _).mono ?_; rintro e v1a ⟨rfl, hb1a⟩) | (go_at_call_of 15 u; refine (toRide_any u _).mono ?_; rintro e v1b ⟨rfl, hb1b⟩) | (go_at_call 33; refine (HS.out _).mono ?_; rintro e v1c ⟨rfl, hb1c⟩))
  have HD1 : Hid (Below w0.heap.size w0 v1c) := (((d1.trans hb1a).trans (hb1b.mono (d1.trans hb1a).size)).trans (hb1c.mono ((d1.trans hb1a).trans (hb1b.mono (d1.trans hb1a).size)).size))
  have HB1 : Hid (Below w.heap.size w v1c) := HB0.out.trans (HD1.out.mono HB0.out.size)
  have HK2 : Hid (∀ w', Below v1c.heap.size v1c w' → w'.cell? ⟨w.heap.size, 0, none⟩ = some (.int .i64 t.1) ∧ w'.cell? ⟨w.heap.size, 1, none⟩ = some (.int .i64 t.2.1) ∧ w'.cell? ⟨w.heap.size, 2, none⟩ = some (.int .i64 t.2.2.1) ∧ w'.cell? ⟨w.heap.size, 3, none⟩ = some (.int .i64 t.2.2.2) ∧ w'.cell? ⟨w.heap.size + 1, 0, none⟩ = some (.int .i64 u.1) ∧ w'.cell? ⟨w.heap.size + 1, 1, none⟩ = some (.int .i64 u.2.1) ∧ w'.cell? ⟨w.heap.size + 1, 2, none⟩ = some (.int .i64 u.2.2.1) ∧ w'.cell? ⟨w.heap.size + 1, 3, none⟩ = some (.int .i64 u.2.2.2)) := fun w' hh => HK.out w' (HD1.out.trans (hh.mono HD1.out.size))
  have d2 := (Below.refl v1c.heap.size v1c).drew
  clear hb1a hb1b hb1c d1 HK HD1 HB0
  go_wp2_with fail
  go_region_held3 (fun w' => w'.cell? ⟨w.heap.size, 0, none⟩ = some (.int .i64 t.1) ∧ w'.cell? ⟨w.heap.size, 1, none⟩ = some (.int .i64 t.2.1) ∧ w'.cell? ⟨w.heap.size, 2, none⟩ = some (.int .i64 t.2.2.1) ∧ w'.cell? ⟨w.heap.size, 3, none⟩ = some (.int .i64 t.2.2.2) ∧ w'.cell? ⟨w.heap.size + 1, 0, none⟩ = some (.int .i64 u.1) ∧ w'.cell? ⟨w.heap.size + 1, 1, none⟩ = some (.int .i64 u.2.1) ∧ w'.cell? ⟨w.heap.size + 1, 2, none⟩ = some (.int .i64 u.2.2.1) ∧ w'.cell? ⟨w.heap.size + 1, 3, none⟩ = some (.int .i64 u.2.2.2))
    (first | exact HK2.out _ (Below.refl _ _) | exact HK2.out _ d2 | exact HK2.out _ (d2.trans hb2a) | exact HK2.out _ ((d2.trans hb2a).trans (hb2b.mono (d2.trans hb2a).size)) | exact HK2.out _ (((d2.trans hb2a).trans (hb2b.mono (d2.trans hb2a).size)).trans (hb2c.mono ((d2.trans hb2a).trans (hb2b.mono (d2.trans hb2a).size)).size)))
    (first | (go_at_call_of 15 t; refine (toRide_any t _).mono ?_; rintro e v2a ⟨rfl, hb2a⟩) | (go_at_call_of 15 u; refine (toRide_any u _).mono ?_; rintro e v2b ⟨rfl, hb2b⟩) | (go_at_call 34; refine (HI.out _).mono ?_; rintro e v2c ⟨rfl, hb2c⟩))
  have HB2 : Hid (Below w.heap.size w v2c) := HB1.out.trans (((((d2.trans hb2a).trans (hb2b.mono (d2.trans hb2a).size)).trans (hb2c.mono ((d2.trans hb2a).trans (hb2b.mono (d2.trans hb2a).size)).size))).mono HB1.out.size)
  clear hb2a hb2b hb2c d2 HK2
  go_wp2
  go_ret
  exact ⟨rfl, HB2.out⟩
end Go.Proofs.Ytcehkkamepdkoaa.fnExactCatchUp
