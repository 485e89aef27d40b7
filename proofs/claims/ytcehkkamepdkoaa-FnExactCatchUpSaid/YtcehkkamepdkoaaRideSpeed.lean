/-
  The walks of l03Num, l03Den, eqFraction, checkRides and speed.
-/
import Derived.Test.YtcehkkamepdkoaaRideLeaf
import Derived.Test.YtcehkkamepdkoaaGcd
namespace Go.Proofs.Ytcehkkamepdkoaa
open Go.RowKit

theorem l03Num_any (pb po : Nat) (t : R4) (w : World) (hv : rideB t = true) (p2 : w.cell? ⟨pb, po + 2, none⟩ = some (.int .i64 t.2.2.1)) : Calls Try.prog 51 #[.pointer (some ⟨pb, po, none⟩)] w fun e w' => e = .returned (.int .i64 (numR t)) ∧ ∃ m, w' = w.drewN m := by
  have hp := rideB_parts hv
  go_enter Try.func51, Try.ntmps51
  go_wp2
  go_ret
  exact ⟨rfl, 0, rfl⟩
theorem l03Den_any (pb po : Nat) (t : R4) (w : World) (hv : rideB t = true) (p1 : w.cell? ⟨pb, po + 1, none⟩ = some (.int .i64 t.2.1)) (p3 : w.cell? ⟨pb, po + 3, none⟩ = some (.int .i64 t.2.2.2)) : Calls Try.prog 52 #[.pointer (some ⟨pb, po, none⟩)] w fun e w' => e = .returned (.int .i64 (denR t)) ∧ ∃ m, w' = w.drewN m := by
  have hp := rideB_parts hv
  go_enter Try.func52, Try.ntmps52
  go_wp2
  go_quiet (fail)
  go_wp2
  go_ret
  exact ⟨rfl, _, rfl⟩
set_option maxHeartbeats 1000000 in
theorem speed_any (t : R4) (w : World) (hv : rideB t = true) : Calls Try.prog 54 #[.agg #[.int .i64 t.1, .int .i64 t.2.1, .int .i64 t.2.2.1, .int .i64 t.2.2.2]] w fun e w' => e = .returned (.agg #[.int .i64 (spR t).1, .int .i64 (spR t).2]) ∧ Below w.heap.size w w' := by
  have hp := rideB_parts hv
  obtain ⟨h1, h2, h3, h4⟩ := ride_bounds hv
  go_enter Try.func54, Try.ntmps54
  go_wp2_with fail
  refine (lowest_any (numR t) (denR t) _ (by omega) (by omega) (by omega) (by omega)).mono ?_
  rintro e w1 ⟨rfl, hb1⟩
  obtain ⟨hc, hf⟩ := bcell hb1
  have hsz := hb1.size
  simp at hsz
  have hlt1 : w.heap.size + 1 < w1.heap.size := by omega
  have HB := Lib.hid hb1
  clear hb1
  go_wp2
  refine bodyPost_ret (v := .agg #[.int .i64 (numR t / gcdI (numR t) (denR t)), .int .i64 (denR t / gcdI (numR t) (denR t))]) (by simp [results, Try.results54, go_sem, hc]) rfl ⟨rfl, ?_⟩
  refine ((Below.trans ?_ (HB.out.mono (by simp; omega))).setCell (by simp; try omega) _).setCell (by simp; try omega) _
  exact (by repeat (first | exact Below.refl _ _ | refine Below.drew ?_ | refine Below.drewN' ?_ _ | refine Below.alloc ?_ (by simp; try omega) _ | refine Below.setCell ?_ (by simp; try omega) _))

set_option maxHeartbeats 1000000 in
theorem checkRides_any (a : Option Addr) (ts : List R4) (n ca : Nat) (w : World) (hn : Hid (ts.length = n)) (ha : RR 4 cRide w a ts) (hmax : n ≤ 1048576) :
    Calls Try.prog 53 #[.slice a n ca] w fun e w' => e = .returned (.int .i64 (codeR ts)) ∧ Below w.heap.size w w' := by
  by_cases hz : n = 0
  · have HZ := Lib.hid hz
    clear hz
    have HR : Hid (codeR ts = 0) := codeR_good ts (fun k hk => by rw [hn.out, HZ.out] at hk; omega)
    go_enter Try.func53, Try.ntmps53
    go_wp2
    go_loop [7] (fun i => ∃ k : Nat, k ≤ n ∧ i = .int .i64 k) (fun _ => 0)
    case atStart => exact ⟨0, by omega, rfl⟩
    case round =>
      obtain ⟨k, hk, rfl⟩ := hrel
      have hlt : ¬ k < n := by rw [HZ.out]; omega
      go_wp2
      go_ret
      exact ⟨ret_int HR.out.symm, (by repeat (first | exact Below.refl _ _ | refine Below.drew ?_ | refine Below.drewN' ?_ _ | refine Below.alloc ?_ (by simp; try omega) _ | refine Below.setCell ?_ (by simp; try omega) _))⟩
  · obtain ⟨b, off, rfl, hb, hc⟩ := ha.addr (by rw [hn.out]; omega)
    have HC := Lib.hid hc
    clear hc ha
    go_enter Try.func53, Try.ntmps53
    go_wp2
    go_loopw [7] (fun i wr => ∃ k : Nat, k ≤ n ∧ i = .int .i64 k ∧ Below w.heap.size w wr ∧ ∀ j (h : j < ts.length), j < k → rideB ts[j] = true) (fun i _ => n - (intOf i).toNat)
    case atStart => exact ⟨0, by omega, rfl, Below.refl _ _, fun j _ hj => by omega⟩
    case round =>
      obtain ⟨k, hk, rfl, hbel, hall⟩ := hrel
      have HALL := Lib.hid hall
      clear hall
      by_cases hlt : k < n
      · have hka : k < ts.length := by rw [hn.out]; exact hlt
        have hbad := fun h => Lib.hid (codeR_bad ts k hka h)
        obtain ⟨x0, x1, x2, x3⟩ := cRide_at HC.out k hka
        have HSM : Hid (rideB ts[k] = true → ∀ j (h : j < ts.length), j < k + 1 → rideB ts[j] = true) := fun ht j h hj => if e : j = k then (by subst e; exact ht) else HALL.out j h (by omega)
        generalize ts[k] = t at x0 x1 x2 x3 HSM hbad
        rw [← hbel.cell (p := ⟨_, _, none⟩) hb] at x0 x1 x2 x3
        have hk0 : (0 : Int) ≤ (k : Int) := by omega
        have hk1 : (k : Int) < (n : Int) := by omega
        have hsz := hbel.size
        have HBEL := Lib.hid hbel
        clear hbel
        have hb' : b < wr.heap.size := by omega
        cases ht : rideB t with
        | true =>
          have HSM2 := Lib.hid (HSM.out ht)
          clear hbad
          go_wp2_with (go_at_call 16; refine (implValidRide_any t _).mono ?_; rintro e w1 ⟨rfl, hb1⟩)
          go_roundw
          case rel => exact ⟨k + 1, by omega, by go_num, (show Below w.heap.size w _ from (by repeat (first | exact HBEL.out | refine Below.drew ?_ | refine Below.drewN' ?_ _ | refine Below.alloc ?_ (by first | omega | (simp; try omega)) _ | refine Below.setCell ?_ (by first | omega | (simp; try omega)) _))).trans (hb1.mono (by simp; omega)), HSM2.out⟩
          case measure => simp [intOf]; omega
        | false =>
          have HR := hbad ht
          clear hbad
          go_wp2_with (go_at_call 16; refine (implValidRide_any t _).mono ?_; rintro e w1 ⟨rfl, hb1⟩)
          go_ret
          exact ⟨ret_int HR.out.symm, (show Below w.heap.size w _ from (by repeat (first | exact HBEL.out | refine Below.drew ?_ | refine Below.drewN' ?_ _ | refine Below.alloc ?_ (by first | omega | (simp; try omega)) _ | refine Below.setCell ?_ (by first | omega | (simp; try omega)) _))).trans (hb1.mono (by simp; omega))⟩
      · have HR : Hid (codeR ts = 0) := codeR_good ts (fun j hj => HALL.out j hj (by rw [hn.out] at hj; omega))
        go_wp2
        go_ret
        exact ⟨ret_int HR.out.symm, hbel⟩
end Go.Proofs.Ytcehkkamepdkoaa
