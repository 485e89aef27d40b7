/-
  Seals: when they are valid; the walks of the tests, the model's and the program's.
-/
import Derived.Test.YtabopjdcpllocaaRowAt
import Derived.Test.YtabopjdcpllocaaSealRec
namespace Go.Proofs.Ytabopjdcpllocaa
open Go.RowKit

def seB (t : TSeal) : Bool := inB t.2 1 1000 && inB t.1 0 t.2
def slB (ts : List TSeal) : Bool := decide (ts.length ≤ 60) && ts.all seB
theorem slB_at {ts : List TSeal} (h : slB ts = true) (i : Nat) (hi : i < ts.length) : 1 ≤ ts[i].2 ∧ ts[i].2 ≤ 1000 ∧ 0 ≤ ts[i].1 ∧ ts[i].1 ≤ ts[i].2 := by
  unfold slB at h
  rw [Bool.and_eq_true] at h
  have := all_at h.2 i hi
  unfold seB at this
  rw [Bool.and_eq_true] at this
  have h1 := inB_of this.1
  have h2 := inB_of this.2
  omega
theorem slB_few {ts : List TSeal} (h : slB ts = true) : ts.length ≤ 60 := by
  unfold slB at h
  rw [Bool.and_eq_true] at h
  exact of_decide_eq_true h.1

set_option maxHeartbeats 1000000 in
theorem l07Seals_any (a : Option Addr) (ts : List TSeal) (n ca : Nat) (w : World) (hn : Hid (ts.length = n)) (ha : RR 2 cSeal w a ts) (hmax : n ≤ 1048576) :
    Calls Try.prog 36 #[.slice a n ca] w fun e w' => e = .returned (.bool (slB ts)) ∧ Below w.heap.size w w' := by
  have HA := Lib.hid ha
  clear ha
  go_enter Try.func36, Try.ntmps36
  go_wp2
  go_loopw [3] (fun i wr => ∃ k : Nat, k ≤ n ∧ i = .int .i64 k ∧ Below w.heap.size w wr ∧ ∀ j (h : j < ts.length), j < k → seB ts[j] = true) (fun i _ => n - (intOf i).toNat)
  case atStart => exact ⟨0, by omega, rfl, Below.refl _ _, fun j _ hj => by omega⟩
  case round =>
    obtain ⟨k, hk, rfl, hbel, hall⟩ := hrel
    have HALL := Lib.hid hall
    clear hall
    by_cases hlt : k < n
    · have hka : k < ts.length := by rw [hn.out]; exact hlt
      have HBAD : Hid (seB ts[k] = false → slB ts = false) := fun h => by unfold slB; rw [all_no (f := seB) k hka h]; simp
      have HOK : Hid (seB ts[k] = true → ∀ j (h : j < ts.length), j < k + 1 → seB ts[j] = true) := fun ht j h hj => if e : j = k then (by subst e; exact ht) else HALL.out j h (by omega)
      obtain ⟨b, off, rfl, hbl, hc⟩ := HA.out.at_ k hka
      have x0 := hc 0 _ rfl
      have x1 := hc 1 _ rfl
      simp only [Nat.add_zero] at x0
      clear hc
      rw [← hbel.cell (p := ⟨_, _, none⟩) hbl] at x0 x1
      generalize ts[k] = t at x0 x1 HBAD HOK
      obtain ⟨t1, t2⟩ := t
      dsimp only at x0 x1 HBAD HOK
      have hk0 : (0 : Int) ≤ (k : Int) := by omega
      have hk1 : (k : Int) < (n : Int) := by omega
      have HBEL := Lib.hid hbel
      have HF1 := fun W => l00In_any t2 1 1000 W
      have HF2 := fun W => l00In_any t1 0 t2 W
      clear hbel
      cases h1 : inB t2 1 1000 with
      | false =>
        have HR := Lib.hid (HBAD.out (by unfold seB; rw [h1]; simp))
        rw [h1] at HF1
        clear HOK HBAD HF2
        go_wp2_with fail
        go_quiet (first | (go_at_call 40; with_reducible refine Calls.mono (HF1 _) ?_; rintro e w1 ⟨rfl, rfl⟩; exact ⟨rfl, _, rfl⟩))
        go_wp2
        go_ret
        exact ⟨ret_bool HR.out.symm, (by first | exact HBEL.out.drew | exact Below.drewN' HBEL.out _)⟩
      | true =>
        rw [h1] at HF1
        cases h2 : inB t1 0 t2 with
        | false =>
          have HR := Lib.hid (HBAD.out (by unfold seB; rw [h2]; simp))
          rw [h2] at HF2
          clear HOK HBAD
          go_wp2_with fail
          go_quiet (first | (go_at_call 40; with_reducible refine Calls.mono (HF1 _) ?_; rintro e w1 ⟨rfl, rfl⟩; exact ⟨rfl, _, rfl⟩) | (go_at_call 40; with_reducible refine Calls.mono (HF2 _) ?_; rintro e w1 ⟨rfl, rfl⟩; exact ⟨rfl, _, rfl⟩))
          go_wp2
          go_ret
          exact ⟨ret_bool HR.out.symm, (by first | exact HBEL.out.drew | exact Below.drewN' HBEL.out _)⟩
        | true =>
          have HOK2 := Lib.hid (HOK.out (by unfold seB; rw [h1, h2]; rfl))
          rw [h2] at HF2
          clear HOK HBAD
          go_wp2_with fail
          go_quiet (first | (go_at_call 40; with_reducible refine Calls.mono (HF1 _) ?_; rintro e w1 ⟨rfl, rfl⟩; exact ⟨rfl, _, rfl⟩) | (go_at_call 40; with_reducible refine Calls.mono (HF2 _) ?_; rintro e w1 ⟨rfl, rfl⟩; exact ⟨rfl, _, rfl⟩))
          go_wp2
          go_roundw
          case rel => exact ⟨k + 1, by omega, by go_num, (by first | exact HBEL.out.drew | exact Below.drewN' HBEL.out _), HOK2.out⟩
          case measure => simp [intOf]; omega
    · have HR : Hid (slB ts = decide ((n : Int) ≤ 60)) := by
        unfold Hid slB
        rw [hn.out, all_yes (fun j hj => HALL.out j hj (by rw [hn.out] at hj; omega)), Bool.and_true, show decide (n ≤ 60) = decide ((n : Int) ≤ 60) from decide_eq_decide.2 (by omega)]
      go_wp2
      go_ret
      exact ⟨ret_bool HR.out.symm, hbel⟩

theorem specValidSeals_any (w : World) {a0 : Option Addr} {n0 c0 : Nat} (ts0 : List TSeal) (hn0 : Hid (ts0.length = n0)) (h0 : RR 2 cSeal w a0 ts0) (hs0 : n0 ≤ 1048576) (_wf0 : Hid (∀ t ∈ ts0, wfSeal t)) :
    Calls Try.prog 10 #[.slice a0 n0 c0] w fun e w' => e = .returned (.bool (slB ts0)) ∧ Below w.heap.size w w' := by
  go_enter Try.func10, Try.ntmps10
  go_wp2_with (go_at_call 36; refine (l07Seals_any a0 ts0 n0 c0 _ hn0 h0 hs0).mono ?_; rintro e w' ⟨rfl, hb1⟩)
  go_ret
  exact ⟨rfl, hb1⟩

set_option maxHeartbeats 1000000 in
theorem valSeals_any (a : Option Addr) (ts : List TSeal) (n ca : Nat) (w : World) (hn : Hid (ts.length = n)) (ha : RR 2 cSeal w a ts) (hmax : n ≤ 1048576) :
    Calls Try.prog 12 #[.slice a n ca] w fun e w' => e = .returned (.bool (slB ts)) ∧ Below w.heap.size w w' := by
  have HA := Lib.hid ha
  clear ha
  by_cases h60 : 60 < n
  · have HR : Hid (slB ts = false) := by unfold Hid slB; rw [hn.out, show decide (n ≤ 60) = false from decide_eq_false (by omega)]; rfl
    go_enter Try.func12, Try.ntmps12
    go_wp2
    go_ret
    exact ⟨ret_bool HR.out.symm, Below.refl _ _⟩
  go_enter Try.func12, Try.ntmps12
  go_wp2
  go_loopw [10] (fun i wr => ∃ k : Nat, k ≤ n ∧ i = .int .i64 k ∧ Below w.heap.size w wr ∧ ∀ j (h : j < ts.length), j < k → seB ts[j] = true) (fun i _ => n - (intOf i).toNat)
  case atStart => exact ⟨0, by omega, rfl, Below.refl _ _, fun j _ hj => by omega⟩
  case round =>
    obtain ⟨k, hk, rfl, hbel, hall⟩ := hrel
    have HALL := Lib.hid hall
    clear hall
    by_cases hlt : k < n
    · have hka : k < ts.length := by rw [hn.out]; exact hlt
      have HBAD : Hid (seB ts[k] = false → slB ts = false) := fun h => by unfold slB; rw [all_no (f := seB) k hka h]; simp
      have HOK : Hid (seB ts[k] = true → ∀ j (h : j < ts.length), j < k + 1 → seB ts[j] = true) := fun ht j h hj => if e : j = k then (by subst e; exact ht) else HALL.out j h (by omega)
      obtain ⟨b, off, rfl, hbl, hc⟩ := HA.out.at_ k hka
      have x0 := hc 0 _ rfl
      have x1 := hc 1 _ rfl
      simp only [Nat.add_zero] at x0
      clear hc
      rw [← hbel.cell (p := ⟨_, _, none⟩) hbl] at x0 x1
      generalize ts[k] = t at x0 x1 HBAD HOK
      obtain ⟨t1, t2⟩ := t
      dsimp only at x0 x1 HBAD HOK
      have hk0 : (0 : Int) ≤ (k : Int) := by omega
      have hk1 : (k : Int) < (n : Int) := by omega
      have hwr : w.heap.size ≤ wr.heap.size := hbel.size
      have HBEL := Lib.hid hbel
      clear hbel
      cases h1 : inB t2 1 1000 with
      | false =>
        have HR := Lib.hid (HBAD.out (by unfold seB; rw [h1]; simp))
        clear HOK HBAD
        go_wp2_with (go_at_call 38; refine (isWithin_any _ _ _ _).mono ?_; rintro e w' ⟨rfl, rfl⟩)
        go_ret
        exact ⟨ret_bool HR.out.symm, (by repeat (first | exact HBEL.out | refine Below.alloc ?_ (by first | omega | (simp; done) | (simp; omega)) _ | refine Below.setCell ?_ (by first | omega | (simp; done) | (simp; omega)) _))⟩
      | true =>
        cases h2 : inB t1 0 t2 with
        | false =>
          have HR := Lib.hid (HBAD.out (by unfold seB; rw [h2]; simp))
          clear HOK HBAD
          go_wp2_with (go_at_call 38; refine (isWithin_any _ _ _ _).mono ?_; rintro e w' ⟨rfl, rfl⟩)
          go_ret
          exact ⟨ret_bool HR.out.symm, (by repeat (first | exact HBEL.out | refine Below.alloc ?_ (by first | omega | (simp; done) | (simp; omega)) _ | refine Below.setCell ?_ (by first | omega | (simp; done) | (simp; omega)) _))⟩
        | true =>
          have HOK2 := Lib.hid (HOK.out (by unfold seB; rw [h1, h2]; rfl))
          clear HOK HBAD
          go_wp2_with (go_at_call 38; refine (isWithin_any _ _ _ _).mono ?_; rintro e w' ⟨rfl, rfl⟩)
          go_roundw
          case rel => exact ⟨k + 1, by omega, by go_num, (by repeat (first | exact HBEL.out | refine Below.alloc ?_ (by first | omega | (simp; done) | (simp; omega)) _ | refine Below.setCell ?_ (by first | omega | (simp; done) | (simp; omega)) _)), HOK2.out⟩
          case measure => simp [intOf]; omega
    · have HR : Hid (slB ts = true) := by
        unfold Hid slB
        rw [hn.out, all_yes (fun j hj => HALL.out j hj (by rw [hn.out] at hj; omega)), Bool.and_true]
        exact decide_eq_true (by omega)
      go_wp2
      go_ret
      exact ⟨ret_bool HR.out.symm, hbel⟩

theorem implValidSeals_any (w : World) {a0 : Option Addr} {n0 c0 : Nat} (ts0 : List TSeal) (hn0 : Hid (ts0.length = n0)) (h0 : RR 2 cSeal w a0 ts0) (hs0 : n0 ≤ 1048576) (_wf0 : Hid (∀ t ∈ ts0, wfSeal t)) :
    Calls Try.prog 12 #[.slice a0 n0 c0] w fun e w' => e = .returned (.bool (slB ts0)) ∧ Below w.heap.size w w' :=
  valSeals_any a0 ts0 n0 c0 w hn0 h0 hs0
def scode (ts : List TSeal) : Int := if slB ts = true then 0 else 1
theorem checkSeals_any (a : Option Addr) (ts : List TSeal) (n ca : Nat) (w : World) (hn : Hid (ts.length = n)) (ha : RR 2 cSeal w a ts) (hmax : n ≤ 1048576) :
    Calls Try.prog 42 #[.slice a n ca] w fun e w' => e = .returned (.int .i64 (scode ts)) ∧ Below w.heap.size w w' := by
  have VR := valSeals_any a ts n ca w hn ha hmax
  clear ha
  cases h : slB ts with
  | false =>
    have HR : Hid (scode ts = 1) := by unfold Hid scode; rw [h]; rfl
    rw [h] at VR
    go_enter Try.func42, Try.ntmps42
    go_wp2_with (go_at_call 12; refine VR.mono ?_; rintro e w' ⟨rfl, hb1⟩)
    go_ret
    exact ⟨ret_int HR.out.symm, hb1⟩
  | true =>
    have HR : Hid (scode ts = 0) := by unfold Hid scode; rw [h]; rfl
    rw [h] at VR
    go_enter Try.func42, Try.ntmps42
    go_wp2_with (go_at_call 12; refine VR.mono ?_; rintro e w' ⟨rfl, hb1⟩)
    go_ret
    exact ⟨ret_int HR.out.symm, hb1⟩
end Go.Proofs.Ytabopjdcpllocaa
