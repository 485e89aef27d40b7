/-
  Blowers: the walks of the tests: lists of blowers, needs, sets.
-/
import Derived.Test.YtiilgeoahpnkpaaBlowMath
namespace Go.Proofs.Ytiilgeoahpnkpaa
open Go.RowKit

theorem areWithin_any (a : Option Addr) (l : List Int) (n ca : Nat) (hi : Int) (w : World) (hn : Hid (l.length = n)) (ha : RI w a l) (hmax : n ≤ 1048576) :
    Calls Try.prog 91 #[.slice a n ca, .int .i64 hi] w fun e w' => e = .returned (.bool (l.all (fun t => inB t 0 hi))) ∧ w = w' := by
  have HA := Lib.hid ha
  clear ha
  go_enter Try.func91, Try.ntmps91
  go_wp2
  go_loop [9] (fun i => ∃ k : Nat, k ≤ n ∧ i = .int .i64 k ∧ ∀ j (h : j < l.length), j < k → inB l[j] 0 hi = true) (fun i => n - (intOf i).toNat)
  case atStart => exact ⟨0, by omega, rfl, fun j _ hj => by omega⟩
  case round =>
    obtain ⟨k, hk, rfl, hall⟩ := hrel
    have HALL := Lib.hid hall
    clear hall
    by_cases hlt : k < n
    · have hka : k < l.length := by rw [hn.out]; exact hlt
      have HBAD : Hid (inB l[k] 0 hi = false → l.all (fun t => inB t 0 hi) = false) := fun h => all_no (f := fun t => inB t 0 hi) k hka h
      have HOK : Hid (inB l[k] 0 hi = true → ∀ j (h : j < l.length), j < k + 1 → inB l[j] 0 hi = true) := fun ht j h hj => if e : j = k then (by subst e; exact ht) else HALL.out j h (by omega)
      obtain ⟨b, off, rfl, _, x1⟩ := HA.out.at_ k hka
      generalize l[k] = t at x1 HBAD HOK
      have hk0 : (0 : Int) ≤ (k : Int) := by omega
      have hk1 : (k : Int) < (n : Int) := by omega
      cases ht : inB t 0 hi with
      | true =>
        have HOK2 := Lib.hid (HOK.out ht)
        clear HOK HBAD
        go_wp2_with (go_at_call 103; refine (isWithin_any _ _ _ _).mono ?_; rintro e w' ⟨rfl, rfl⟩)
        go_round
        case rel => exact ⟨k + 1, by omega, by go_num, HOK2.out⟩
        case measure => simp [intOf]; omega
      | false =>
        have HR := Lib.hid (HBAD.out ht)
        clear HOK HBAD
        go_wp2_with (go_at_call 103; refine (isWithin_any _ _ _ _).mono ?_; rintro e w' ⟨rfl, rfl⟩)
        go_ret
        exact ⟨ret_bool HR.out.symm, rfl⟩
    · have HR : Hid (l.all (fun t => inB t 0 hi) = true) := all_yes (fun j hj => HALL.out j hj (by rw [hn.out] at hj; omega))
      go_wp2
      go_ret
      exact ⟨ret_bool HR.out.symm, rfl⟩

theorem isValidB_any (t1 t2 t3 : Int) (w : World) : Calls Try.prog 90 #[.agg #[.int .i64 t1, .int .i64 t2, .int .i64 t3]] w fun e w' => e = .returned (.bool (blB (t1, t2, t3))) ∧ Below w.heap.size w w' := by
  cases h1 : inB t1 1 1000 with
  | false =>
    have HR : Hid (blB (t1, t2, t3) = false) := by unfold Hid blB; rw [h1]; rfl
    go_enter Try.func90, Try.ntmps90
    go_wp2_with (go_at_call 103; refine (isWithin_any _ _ _ _).mono ?_; rintro e w' ⟨rfl, rfl⟩)
    go_ret
    exact ⟨ret_bool HR.out.symm, (by repeat (first | exact Below.refl _ _ | refine Below.alloc ?_ (by simp; try omega) _ | refine Below.setCell ?_ (by simp; try omega) _))⟩
  | true =>
    cases h2 : inB t2 0 10000 with
    | false =>
      have HR : Hid (blB (t1, t2, t3) = false) := by unfold Hid blB; rw [h2]; simp
      go_enter Try.func90, Try.ntmps90
      go_wp2_with (go_at_call 103; refine (isWithin_any _ _ _ _).mono ?_; rintro e w' ⟨rfl, rfl⟩)
      go_ret
      exact ⟨ret_bool HR.out.symm, (by repeat (first | exact Below.refl _ _ | refine Below.alloc ?_ (by simp; try omega) _ | refine Below.setCell ?_ (by simp; try omega) _))⟩
    | true =>
      have HR : Hid (blB (t1, t2, t3) = inB t3 0 10000) := by unfold Hid blB; rw [h1, h2]; rfl
      go_enter Try.func90, Try.ntmps90
      go_wp2_with (go_at_call 103; refine (isWithin_any _ _ _ _).mono ?_; rintro e w' ⟨rfl, rfl⟩)
      go_ret
      exact ⟨ret_bool HR.out.symm, (by repeat (first | exact Below.refl _ _ | refine Below.alloc ?_ (by simp; try omega) _ | refine Below.setCell ?_ (by simp; try omega) _))⟩

set_option maxHeartbeats 1000000 in
theorem valBlowers_any (a : Option Addr) (ts : List TBlower) (n ca : Nat) (w : World) (hn : Hid (ts.length = n)) (ha : RR 3 cBlower w a ts) (hmax : n ≤ 1048576) :
    Calls Try.prog 35 #[.slice a n ca] w fun e w' => e = .returned (.bool (blsB ts)) ∧ Below w.heap.size w w' := by
  have HA := Lib.hid ha
  clear ha
  by_cases h60 : ¬ n ≤ 4
  · have HR : Hid (blsB ts = false) := blsB_many (by rw [hn.out]; exact h60)
    have h61 : (4 : Int) < n := by omega
    go_enter Try.func35, Try.ntmps35
    go_wp2
    go_ret
    exact ⟨ret_bool HR.out.symm, Below.refl _ _⟩
  have HFEW : Hid (blsB ts = ts.all blB) := blsB_few (by rw [hn.out]; omega)
  go_enter Try.func35, Try.ntmps35
  go_wp2
  go_loopw [10] (fun i wr => ∃ k : Nat, k ≤ n ∧ i = .int .i64 k ∧ Below w.heap.size w wr ∧ ∀ j (h : j < ts.length), j < k → blB ts[j] = true) (fun i _ => n - (intOf i).toNat)
  case atStart => exact ⟨0, by omega, rfl, Below.refl _ _, fun j _ hj => by omega⟩
  case round =>
    obtain ⟨k, hk, rfl, hbel, hall⟩ := hrel
    have HALL := Lib.hid hall
    clear hall
    by_cases hlt : k < n
    · have hka : k < ts.length := by rw [hn.out]; exact hlt
      have HBAD : Hid (blB ts[k] = false → ts.all blB = false) := fun h => all_no (f := blB) k hka h
      have HOK : Hid (blB ts[k] = true → ∀ j (h : j < ts.length), j < k + 1 → blB ts[j] = true) := fun ht j h hj => if e : j = k then (by subst e; exact ht) else HALL.out j h (by omega)
      obtain ⟨b, off, rfl, hbl, hc⟩ := HA.out.at_ k hka
      have x0 := hc 0 _ rfl
      have x1 := hc 1 _ rfl
      have x2 := hc 2 _ rfl
      simp only [Nat.add_zero] at x0
      clear hc
      rw [← hbel.cell (p := ⟨_, _, none⟩) hbl] at x0 x1 x2
      generalize ts[k] = t at x0 x1 x2 HBAD HOK
      obtain ⟨t1, t2, t3⟩ := t
      dsimp only at x0 x1 x2 HBAD HOK
      have hk0 : (0 : Int) ≤ (k : Int) := by omega
      have hk1 : (k : Int) < (n : Int) := by omega
      have hwr : w.heap.size ≤ wr.heap.size := hbel.size
      have HBEL := Lib.hid hbel
      clear hbel
      have HV := fun W => isValidB_any t1 t2 t3 W
      cases h1 : blB (t1, t2, t3) with
      | false =>
        have HR := Lib.hid (HFEW.out.trans (HBAD.out h1))
        rw [h1] at HV
        clear HOK HBAD
        go_wp2_with (go_at_call 90; refine (HV _).mono ?_; rintro e w4 ⟨rfl, hb4⟩)
        go_ret
        exact ⟨ret_bool HR.out.symm, Below.trans (by repeat (first | exact HBEL.out | refine Below.alloc ?_ (by first | omega | (simp; done) | (simp; omega)) _ | refine Below.setCell ?_ (by first | omega | (simp; done) | (simp; omega)) _)) (hb4.mono (by simp; omega))⟩
      | true =>
        have HOK2 := Lib.hid (HOK.out h1)
        rw [h1] at HV
        clear HOK HBAD
        go_wp2_with (go_at_call 90; refine (HV _).mono ?_; rintro e w4 ⟨rfl, hb4⟩)
        go_roundw
        case rel => exact ⟨k + 1, by omega, by go_num, Below.trans (by repeat (first | exact HBEL.out | refine Below.alloc ?_ (by first | omega | (simp; done) | (simp; omega)) _ | refine Below.setCell ?_ (by first | omega | (simp; done) | (simp; omega)) _)) (hb4.mono (by simp; omega)), HOK2.out⟩
        case measure => simp [intOf]; omega
    · have HR : Hid (blsB ts = true) := HFEW.out.trans (all_yes (fun j hj => HALL.out j hj (by rw [hn.out] at hj; omega)))
      go_wp2
      go_ret
      exact ⟨ret_bool HR.out.symm, hbel⟩

set_option maxHeartbeats 1000000 in
theorem l11Ok_any (a : Option Addr) (ts : List TBlower) (n ca : Nat) (w : World) (hn : Hid (ts.length = n)) (ha : RR 3 cBlower w a ts) (hmax : n ≤ 1048576) :
    Calls Try.prog 63 #[.slice a n ca] w fun e w' => e = .returned (.bool (blsB ts)) ∧ Below w.heap.size w w' := by
  have HA := Lib.hid ha
  clear ha
  go_enter Try.func63, Try.ntmps63
  go_wp2
  go_loopw [3] (fun i wr => ∃ k : Nat, k ≤ n ∧ i = .int .i64 k ∧ Below w.heap.size w wr ∧ ∀ j (h : j < ts.length), j < k → blB ts[j] = true) (fun i _ => n - (intOf i).toNat)
  case atStart => exact ⟨0, by omega, rfl, Below.refl _ _, fun j _ hj => by omega⟩
  case round =>
    obtain ⟨k, hk, rfl, hbel, hall⟩ := hrel
    have HALL := Lib.hid hall
    clear hall
    by_cases hlt : k < n
    · have hka : k < ts.length := by rw [hn.out]; exact hlt
      have HBAD : Hid (blB ts[k] = false → ts.all blB = false) := fun h => all_no (f := blB) k hka h
      have HOK : Hid (blB ts[k] = true → ∀ j (h : j < ts.length), j < k + 1 → blB ts[j] = true) := fun ht j h hj => if e : j = k then (by subst e; exact ht) else HALL.out j h (by omega)
      obtain ⟨b, off, rfl, hbl, hc⟩ := HA.out.at_ k hka
      have x0 := hc 0 _ rfl
      have x1 := hc 1 _ rfl
      have x2 := hc 2 _ rfl
      simp only [Nat.add_zero] at x0
      clear hc
      rw [← hbel.cell (p := ⟨_, _, none⟩) hbl] at x0 x1 x2
      generalize ts[k] = t at x0 x1 x2 HBAD HOK
      obtain ⟨t1, t2, t3⟩ := t
      dsimp only at x0 x1 x2 HBAD HOK
      have hk0 : (0 : Int) ≤ (k : Int) := by omega
      have hk1 : (k : Int) < (n : Int) := by omega
      have hwr : w.heap.size ≤ wr.heap.size := hbel.size
      have HBEL := Lib.hid hbel
      clear hbel
      have HBAD2 : Hid (blB (t1, t2, t3) = false → blsB ts = false) := fun h => by unfold blsB; rw [HBAD.out h]; simp
      have HF1 := fun W => l00In_any t1 1 1000 W
      have HF2 := fun W => l00In_any t2 0 10000 W
      have HF3 := fun W => l00In_any t3 0 10000 W
      cases h1 : inB t1 1 1000 with
      | false =>
        have HR := Lib.hid (HBAD2.out (by unfold blB; rw [h1]; rfl))
        rw [h1] at HF1
        clear HOK HBAD HBAD2 HF2 HF3
        go_wp2_with (go_at_call 74; refine (HF1 _).mono ?_; rintro e w4 ⟨rfl, rfl⟩)
        go_ret
        exact ⟨ret_bool HR.out.symm, (by repeat (first | exact HBEL.out | refine Below.alloc ?_ (by first | omega | (simp; done) | (simp; omega)) _ | refine Below.setCell ?_ (by first | omega | (simp; done) | (simp; omega)) _))⟩
      | true =>
        rw [h1] at HF1
        cases h2 : inB t2 0 10000 with
        | false =>
          have HR := Lib.hid (HBAD2.out (by unfold blB; rw [h2]; simp))
          rw [h2] at HF2
          clear HOK HBAD HBAD2 HF3
          go_wp2_with (go_at_call 74; first | (with_reducible refine Calls.mono (HF1 _) ?_; rintro e w4 ⟨rfl, rfl⟩) | (with_reducible refine Calls.mono (HF2 _) ?_; rintro e w4 ⟨rfl, rfl⟩))
          go_ret
          exact ⟨ret_bool HR.out.symm, (by repeat (first | exact HBEL.out | refine Below.alloc ?_ (by first | omega | (simp; done) | (simp; omega)) _ | refine Below.setCell ?_ (by first | omega | (simp; done) | (simp; omega)) _))⟩
        | true =>
          rw [h2] at HF2
          cases h3 : inB t3 0 10000 with
          | false =>
            have HR := Lib.hid (HBAD2.out (by unfold blB; rw [h3]; simp))
            rw [h3] at HF3
            clear HOK HBAD HBAD2
            go_wp2_with (go_at_call 74; first | (with_reducible refine Calls.mono (HF1 _) ?_; rintro e w4 ⟨rfl, rfl⟩) | (with_reducible refine Calls.mono (HF2 _) ?_; rintro e w4 ⟨rfl, rfl⟩) | (with_reducible refine Calls.mono (HF3 _) ?_; rintro e w4 ⟨rfl, rfl⟩))
            go_ret
            exact ⟨ret_bool HR.out.symm, (by repeat (first | exact HBEL.out | refine Below.alloc ?_ (by first | omega | (simp; done) | (simp; omega)) _ | refine Below.setCell ?_ (by first | omega | (simp; done) | (simp; omega)) _))⟩
          | true =>
            have HOK2 := Lib.hid (HOK.out (by unfold blB; rw [h1, h2, h3]; rfl))
            rw [h3] at HF3
            clear HOK HBAD HBAD2
            go_wp2_with (go_at_call 74; first | (with_reducible refine Calls.mono (HF1 _) ?_; rintro e w4 ⟨rfl, rfl⟩) | (with_reducible refine Calls.mono (HF2 _) ?_; rintro e w4 ⟨rfl, rfl⟩) | (with_reducible refine Calls.mono (HF3 _) ?_; rintro e w4 ⟨rfl, rfl⟩))
            go_roundw
            case rel => exact ⟨k + 1, by omega, by go_num, (by repeat (first | exact HBEL.out | refine Below.alloc ?_ (by first | omega | (simp; done) | (simp; omega)) _ | refine Below.setCell ?_ (by first | omega | (simp; done) | (simp; omega)) _)), HOK2.out⟩
            case measure => simp [intOf]; omega
    · have HR : Hid (blsB ts = decide ((n : Int) ≤ 4)) := by
        unfold Hid blsB
        rw [hn.out, all_yes (fun j hj => HALL.out j hj (by rw [hn.out] at hj; omega)), Bool.and_true, show decide (n ≤ 4) = decide ((n : Int) ≤ 4) from decide_eq_decide.2 (by omega)]
      go_wp2
      go_ret
      exact ⟨ret_bool HR.out.symm, hbel⟩

theorem specValidBlowers_any (w : World) {a0 : Option Addr} {n0 c0 : Nat} (ts0 : List TBlower) (hn0 : Hid (ts0.length = n0)) (h0 : RR 3 cBlower w a0 ts0) (hs0 : n0 ≤ 1048576) (_wf0 : Hid (∀ t ∈ ts0, wfBlower t)) :
    Calls Try.prog 36 #[.slice a0 n0 c0] w fun e w' => e = .returned (.bool (blsB ts0)) ∧ Below w.heap.size w w' := by
  go_enter Try.func36, Try.ntmps36
  go_wp2_with (go_at_call 63; refine (l11Ok_any a0 ts0 n0 c0 _ hn0 h0 hs0).mono ?_; rintro e w' ⟨rfl, hb1⟩)
  go_ret
  exact ⟨rfl, hb1⟩
theorem implValidBlowers_any (w : World) {a0 : Option Addr} {n0 c0 : Nat} (ts0 : List TBlower) (hn0 : Hid (ts0.length = n0)) (h0 : RR 3 cBlower w a0 ts0) (hs0 : n0 ≤ 1048576) (_wf0 : Hid (∀ t ∈ ts0, wfBlower t)) :
    Calls Try.prog 35 #[.slice a0 n0 c0] w fun e w' => e = .returned (.bool (blsB ts0)) ∧ Below w.heap.size w w' := valBlowers_any a0 ts0 n0 c0 w hn0 h0 hs0

theorem l11Needs_any (a : Option Addr) (l : List Int) (n ca : Nat) (w : World) (hn : Hid (l.length = n)) (ha : RI w a l) (hmax : n ≤ 1048576) :
    Calls Try.prog 64 #[.slice a n ca] w fun e w' => e = .returned (.bool (neB l)) ∧ w = w' := by
  have HA := Lib.hid ha
  clear ha
  go_enter Try.func64, Try.ntmps64
  go_wp2
  go_loop [3] (fun i => ∃ k : Nat, k ≤ n ∧ i = .int .i64 k ∧ ∀ j (h : j < l.length), j < k → inB l[j] 0 1000 = true) (fun i => n - (intOf i).toNat)
  case atStart => exact ⟨0, by omega, rfl, fun j _ hj => by omega⟩
  case round =>
    obtain ⟨k, hk, rfl, hall⟩ := hrel
    have HALL := Lib.hid hall
    clear hall
    by_cases hlt : k < n
    · have hka : k < l.length := by rw [hn.out]; exact hlt
      have HBAD : Hid (inB l[k] 0 1000 = false → neB l = false) := fun h => by unfold neB; rw [all_no (f := fun t => inB t 0 1000) k hka h]; simp
      have HOK : Hid (inB l[k] 0 1000 = true → ∀ j (h : j < l.length), j < k + 1 → inB l[j] 0 1000 = true) := fun ht j h hj => if e : j = k then (by subst e; exact ht) else HALL.out j h (by omega)
      obtain ⟨b, off, rfl, _, x1⟩ := HA.out.at_ k hka
      generalize l[k] = t at x1 HBAD HOK
      have hk0 : (0 : Int) ≤ (k : Int) := by omega
      have hk1 : (k : Int) < (n : Int) := by omega
      cases ht : inB t 0 1000 with
      | true =>
        have HOK2 := Lib.hid (HOK.out ht)
        clear HOK HBAD
        go_wp2_with (go_at_call 74; refine (l00In_any _ _ _ _).mono ?_; rintro e w' ⟨rfl, rfl⟩)
        go_round
        case rel => exact ⟨k + 1, by omega, by go_num, HOK2.out⟩
        case measure => simp [intOf]; omega
      | false =>
        have HR := Lib.hid (HBAD.out ht)
        clear HOK HBAD
        go_wp2_with (go_at_call 74; refine (l00In_any _ _ _ _).mono ?_; rintro e w' ⟨rfl, rfl⟩)
        go_ret
        exact ⟨ret_bool HR.out.symm, rfl⟩
    · have HR : Hid (neB l = decide ((n : Int) ≤ 24)) := by
        unfold Hid neB
        rw [hn.out, all_yes (fun j hj => HALL.out j hj (by rw [hn.out] at hj; omega)), Bool.and_true, show decide (n ≤ 24) = decide ((n : Int) ≤ 24) from decide_eq_decide.2 (by omega)]
      go_wp2
      go_ret
      exact ⟨ret_bool HR.out.symm, rfl⟩
theorem specValidNeeds_any (w : World) {a0 : Option Addr} {n0 c0 : Nat} (l0 : List Int) (hn0 : Hid (l0.length = n0)) (h0 : RI w a0 l0) (hs0 : n0 ≤ 1048576) (_wf0 : Hid (∀ k ∈ l0, (Lit.int .i64 k).wf = true)) :
    Calls Try.prog 38 #[.slice a0 n0 c0] w fun e w' => e = .returned (.bool (neB l0)) ∧ Below w.heap.size w w' := by
  go_enter Try.func38, Try.ntmps38
  go_wp2_with (go_at_call 64; refine (l11Needs_any a0 l0 n0 c0 _ hn0 h0 hs0).mono ?_; rintro e w' ⟨rfl, rfl⟩)
  go_ret
  exact ⟨rfl, Below.refl _ _⟩
theorem valNeeds_any (a : Option Addr) (l : List Int) (n ca : Nat) (w : World) (hn : Hid (l.length = n)) (ha : RI w a l) (hmax : n ≤ 1048576) :
    Calls Try.prog 37 #[.slice a n ca] w fun e w' => e = .returned (.bool (neB l)) ∧ w = w' := by
  have AW := areWithin_any a l n ca 1000 w hn ha hmax
  by_cases h24 : n ≤ 24
  · have HR : Hid (neB l = l.all (fun x => inB x 0 1000)) := neB_few (by rw [hn.out]; exact h24)
    have h25 : (n : Int) ≤ 24 := by omega
    clear ha
    go_enter Try.func37, Try.ntmps37
    go_wp2_with (go_at_call 91; refine AW.mono ?_; rintro e w' ⟨rfl, rfl⟩)
    go_ret
    exact ⟨ret_bool HR.out.symm, rfl⟩
  · have HR : Hid (neB l = false) := neB_many (by rw [hn.out]; exact h24)
    have h25 : ¬ (n : Int) ≤ 24 := by omega
    clear ha
    go_enter Try.func37, Try.ntmps37
    go_wp2_with (go_at_call 91; refine AW.mono ?_; rintro e w' ⟨rfl, rfl⟩)
    go_ret
    exact ⟨ret_bool HR.out.symm, rfl⟩
theorem implValidNeeds_any (w : World) {a0 : Option Addr} {n0 c0 : Nat} (l0 : List Int) (hn0 : Hid (l0.length = n0)) (h0 : RI w a0 l0) (hs0 : n0 ≤ 1048576) (_wf0 : Hid (∀ k ∈ l0, (Lit.int .i64 k).wf = true)) :
    Calls Try.prog 37 #[.slice a0 n0 c0] w fun e w' => e = .returned (.bool (neB l0)) ∧ Below w.heap.size w w' := (valNeeds_any a0 l0 n0 c0 w hn0 h0 hs0).mono fun _ _ h => ⟨h.1, h.2 ▸ Below.refl _ _⟩
end Go.Proofs.Ytiilgeoahpnkpaa
