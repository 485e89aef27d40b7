/-
  Seals: RunsLeft, WornSeals, RunCarrier, NextCarrier; the model's walks and the program's.
-/
import Derived.Test.YtabopjdcpllocaaSeals
import Derived.Test.YtabopjdcpllocaaCopies
namespace Go.Proofs.Ytabopjdcpllocaa
open Go.RowKit

def runsAt (ts : List TSeal) (k : Nat) : Int := ((ts.take k).map fun t => t.2 - t.1).sum
theorem runsAt_zero (ts : List TSeal) : runsAt ts 0 = 0 := by simp [runsAt]
theorem runsAt_succ (ts : List TSeal) (k : Nat) (h : k < ts.length) : runsAt ts (k + 1) = runsAt ts k + (ts[k].2 - ts[k].1) := by
  unfold runsAt
  rw [List.take_succ_eq_append_getElem h, List.map_append, List.sum_append]
  simp
theorem runsAt_le {ts : List TSeal} (h : slB ts = true) (k : Nat) (hk : k ≤ ts.length) : 0 ≤ runsAt ts k ∧ runsAt ts k ≤ 1000 * (k : Int) := by
  induction k with
  | zero => rw [runsAt_zero]; omega
  | succ k ih =>
    have h1 := ih (by omega)
    have h2 := slB_at h k (by omega)
    rw [runsAt_succ _ _ (by omega)]
    omega
def runsLeft (ts : List TSeal) : Int × Int := if slB ts = true then (runsAt ts ts.length, 0) else (0, 1)
theorem runsLeft_bad {ts : List TSeal} (h : slB ts = false) : runsLeft ts = (0, 1) := by unfold runsLeft; rw [h]; rfl
theorem runsLeft_good {ts : List TSeal} (h : slB ts = true) : runsLeft ts = (runsAt ts ts.length, 0) := by unfold runsLeft; rw [h]; rfl

set_option maxHeartbeats 1000000 in
theorem specRunsLeft_any (w : World) {a0 : Option Addr} {n0 c0 : Nat} (ts0 : List TSeal) (hn0 : Hid (ts0.length = n0)) (h0 : RR 2 cSeal w a0 ts0) (hs0 : n0 ≤ 1048576) (_wf0 : Hid (∀ t ∈ ts0, wfSeal t)) :
    Calls Try.prog 25 #[.slice a0 n0 c0] w fun e w' => e = .returned (.tuple #[.int .i64 (runsLeft ts0).1, .int .i64 (runsLeft ts0).2]) ∧ Below w.heap.size w w' := by
  have HA : Hid (∀ w', Below w.heap.size w w' → RR 2 cSeal w' a0 ts0) := fun w' h => h0.below h
  have SE := l07Seals_any a0 ts0 n0 c0 w hn0 h0 hs0
  clear h0
  cases hv : slB ts0 with
  | false =>
    rw [hv] at SE
    have HR := Lib.hid (runsLeft_bad hv)
    clear hv
    go_enter Try.func25, Try.ntmps25
    go_wp2_with (go_at_call 36; refine SE.mono ?_; rintro e w1 ⟨rfl, hb1⟩)
    go_ret2
    rw [HR.out]
    exact ⟨rfl, hb1⟩
  | true =>
    have HV := Lib.hid hv
    have HR : Hid (runsLeft ts0 = (runsAt ts0 n0, 0)) := by unfold Hid; rw [runsLeft_good hv, hn0.out]
    rw [hv] at SE
    have hfew : n0 ≤ 60 := by have := slB_few hv; rw [hn0.out] at this; exact this
    clear hv
    go_enter Try.func25, Try.ntmps25
    go_wp2_with (go_at_call 36; refine SE.mono ?_; rintro e w1 ⟨rfl, hb1⟩)
    have HB1 := Lib.hid hb1
    clear hb1 SE
    go_loopw [4, 5] (fun sv iv wr => ∃ k : Nat, k ≤ n0 ∧ iv = .int .i64 k ∧ sv = .int .i64 (runsAt ts0 k) ∧ Hid (Below w.heap.size w wr)) (fun _ iv _ => n0 - (intOf iv).toNat)
    case atStart => exact ⟨0, by omega, rfl, by rw [runsAt_zero], HB1⟩
    case round =>
      obtain ⟨k, hk, rfl, rfl, HBEL⟩ := hrel
      by_cases hlt : k < n0
      · have hka : k < ts0.length := by rw [hn0.out]; exact hlt
        have HS := Lib.hid (runsAt_succ ts0 k hka)
        have hbd := runsAt_le HV.out k (by omega)
        have hat := slB_at HV.out k hka
        obtain ⟨b, off, rfl, _, hc⟩ := (HA.out _ HBEL.out).at_ k hka
        have x0 := hc 0 _ rfl
        have x1 := hc 1 _ rfl
        simp only [Nat.add_zero] at x0
        clear hc
        generalize ts0[k] = t at x0 x1 HS hat
        obtain ⟨t1, t2⟩ := t
        dsimp only at x0 x1 HS hat
        generalize runsAt ts0 k = s at HS hbd
        have hk0 : (0 : Int) ≤ (k : Int) := by omega
        have hk1 : (k : Int) < (n0 : Int) := by omega
        go_wp2_with fail
        go_quiet (fail)
        go_wp2
        go_roundw
        case rel => exact ⟨k + 1, by omega, by go_num, by first | rw [HS.out] | rw [IntWalk.i64_in (t2 - t1) (by omega), IntWalk.i64_in (s + (t2 - t1)) (by omega), HS.out], Below.drewN' HBEL.out _⟩
        case measure => simp [intOf]; omega
      · have hkn : k = n0 := by omega
        subst hkn
        go_wp2
        go_ret2
        rw [HR.out]
        exact ⟨rfl, HBEL.out⟩

set_option maxHeartbeats 1000000 in
theorem implRunsLeft_any (w : World) {a0 : Option Addr} {n0 c0 : Nat} (ts0 : List TSeal) (hn0 : Hid (ts0.length = n0)) (h0 : RR 2 cSeal w a0 ts0) (hs0 : n0 ≤ 1048576) (_wf0 : Hid (∀ t ∈ ts0, wfSeal t)) :
    Calls Try.prog 26 #[.slice a0 n0 c0] w fun e w' => e = .returned (.tuple #[.int .i64 (runsLeft ts0).1, .int .i64 (runsLeft ts0).2]) ∧ Below w.heap.size w w' := by
  have HA : Hid (∀ w', Below w.heap.size w w' → RR 2 cSeal w' a0 ts0) := fun w' h => h0.below h
  have SE := checkSeals_any a0 ts0 n0 c0 w hn0 h0 hs0
  clear h0
  cases hv : slB ts0 with
  | false =>
    have HC : scode ts0 = 1 := by unfold scode; rw [hv]; rfl
    rw [HC] at SE
    have HR := Lib.hid (runsLeft_bad hv)
    clear hv HC
    go_enter Try.func26, Try.ntmps26
    go_wp2_with (go_at_call 42; refine SE.mono ?_; rintro e w1 ⟨rfl, hb1⟩)
    go_ret2
    rw [HR.out]
    exact ⟨rfl, hb1⟩
  | true =>
    have HC : scode ts0 = 0 := by unfold scode; rw [hv]; rfl
    have HV := Lib.hid hv
    have HR : Hid (runsLeft ts0 = (runsAt ts0 n0, 0)) := by unfold Hid; rw [runsLeft_good hv, hn0.out]
    rw [HC] at SE
    have hfew : n0 ≤ 60 := by have := slB_few hv; rw [hn0.out] at this; exact this
    clear hv HC
    go_enter Try.func26, Try.ntmps26
    go_wp2_with (go_at_call 42; refine SE.mono ?_; rintro e w1 ⟨rfl, hb1⟩)
    have HB1 := Lib.hid hb1
    clear hb1 SE
    go_loopw [5, 15] (fun sv iv wr => ∃ k : Nat, k ≤ n0 ∧ iv = .int .i64 k ∧ sv = .int .i64 (runsAt ts0 k) ∧ Hid (Below w.heap.size w wr)) (fun _ iv _ => n0 - (intOf iv).toNat)
    case atStart => exact ⟨0, by omega, rfl, by rw [runsAt_zero], HB1⟩
    case round =>
      obtain ⟨k, hk, rfl, rfl, HBEL⟩ := hrel
      by_cases hlt : k < n0
      · have hka : k < ts0.length := by rw [hn0.out]; exact hlt
        have HS := Lib.hid (runsAt_succ ts0 k hka)
        have hbd := runsAt_le HV.out k (by omega)
        have hat := slB_at HV.out k hka
        have hws := HBEL.out.size
        obtain ⟨b, off, rfl, _, hc⟩ := (HA.out _ HBEL.out).at_ k hka
        have x0 := hc 0 _ rfl
        have x1 := hc 1 _ rfl
        simp only [Nat.add_zero] at x0
        clear hc
        generalize ts0[k] = t at x0 x1 HS hat
        obtain ⟨t1, t2⟩ := t
        dsimp only at x0 x1 HS hat
        generalize runsAt ts0 k = s at HS hbd
        have hk0 : (0 : Int) ≤ (k : Int) := by omega
        have hk1 : (k : Int) < (n0 : Int) := by omega
        go_wp2
        go_roundw
        case rel => exact ⟨k + 1, by omega, by go_num, by rw [HS.out], (by repeat (first | exact HBEL.out | refine Below.alloc ?_ (by first | omega | (simp; done) | (simp; omega)) _ | refine Below.setCell ?_ (by first | omega | (simp; done) | (simp; omega)) _))⟩
        case measure => simp [intOf]; omega
      · have hkn : k = n0 := by omega
        subst hkn
        go_wp2
        go_ret2
        rw [HR.out]
        exact ⟨rfl, HBEL.out⟩
end Go.Proofs.Ytabopjdcpllocaa
