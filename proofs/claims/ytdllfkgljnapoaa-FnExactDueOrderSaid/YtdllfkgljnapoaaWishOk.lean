/-
  Wishes: when they are valid; the walks of the tests, the model's and the program's.
-/
import Derived.Test.YtdllfkgljnapoaaTimeOk
namespace Go.Proofs.Ytdllfkgljnapoaa
open Go.RowKit

def wiB (m : Int) (t : TWish) : Bool := wyB m t.1 && (inB t.2.1 0 10000 && inB t.2.2 0 10000)
def whB (l : List Int) (ts : List TWish) : Bool := tmB l && (decide (ts.length ≤ 6) && ts.all (wiB (l.length : Int)))
theorem l08Tick_any (x : Int) (w : World) : Calls Try.prog 34 #[.int .i64 x] w fun e w' => e = .returned (.bool (inB x 0 10000)) ∧ w = w' := by
  go_enter Try.func34, Try.ntmps34
  go_wp2_with (go_at_call 41; refine (l00In_any _ _ _ _).mono ?_; rintro e w' ⟨rfl, rfl⟩)
  go_ret
  exact ⟨rfl, rfl⟩

set_option maxHeartbeats 1000000 in
theorem l08Ok_any (a b : Option Addr) (l : List Int) (ts : List TWish) (n ca m cb : Nat) (w : World) (hn : Hid (l.length = n)) (ha : RI w a l) (hmaxn : n ≤ 1048576) (hm : Hid (ts.length = m)) (hb : RN 1048576 3 cWish w b ts) (hmax : m ≤ 1048576) :
    Calls Try.prog 21 #[.slice a n ca, .slice b m cb] w fun e w' => e = .returned (.bool (whB l ts)) ∧ w = w' := by
  have HA := Lib.hid ha
  have HB := Lib.hid hb
  clear ha hb
  go_enter Try.func21, Try.ntmps21
  go_wp2
  go_loop [5] (fun i => ∃ k : Nat, k ≤ m ∧ i = .int .i64 k ∧ ∀ j (h : j < ts.length), j < k → wiB n ts[j] = true) (fun i => m - (intOf i).toNat)
  case atStart => exact ⟨0, by omega, rfl, fun j _ hj => by omega⟩
  case round =>
    obtain ⟨k, hk, rfl, hall⟩ := hrel
    have HALL := Lib.hid hall
    clear hall
    by_cases hlt : k < m
    · have hka : k < ts.length := by rw [hm.out]; exact hlt
      have HBAD : Hid (wiB n ts[k] = false → whB l ts = false) := fun h => by unfold whB; rw [hn.out, all_no (f := wiB (n : Int)) k hka h]; simp
      have HOK : Hid (wiB n ts[k] = true → ∀ j (h : j < ts.length), j < k + 1 → wiB n ts[j] = true) := fun ht j h hj => if e : j = k then (by subst e; exact ht) else HALL.out j h (by omega)
      obtain ⟨b, off, ai, ci, rfl, _, hri, hq, hc⟩ := HB.out.at_ k hka
      have x0 := hc 0 _ rfl
      have x1 := hc 1 _ rfl
      have x2 := hc 2 _ rfl
      simp only [Nat.add_zero] at x0
      have HRI := Lib.hid hri
      clear hri hc
      generalize ts[k] = t at x0 x1 x2 HRI hq HBAD HOK
      obtain ⟨t1, t2, t3⟩ := t
      dsimp only at x0 x1 x2 HRI hq HBAD HOK
      generalize hql : t1.length = q at x0 hq
      have HQ := Lib.hid hql
      clear hql
      have hk0 : (0 : Int) ≤ (k : Int) := by omega
      have hk1 : (k : Int) < (m : Int) := by omega
      cases ht : wyB n t1 with
      | false =>
        have HR := Lib.hid (HBAD.out (by unfold wiB; rw [ht]; simp))
        clear HOK HBAD
        go_wp2_with (first | (go_at_call 33; refine (l06Way_any _ _ t1 _ _ _ _ _ hmaxn HQ HRI.out hq).mono ?_; rintro e w' ⟨rfl, rfl⟩) | (go_at_call 34; refine (l08Tick_any _ _).mono ?_; rintro e w' ⟨rfl, rfl⟩))
        go_ret
        exact ⟨ret_bool HR.out.symm, rfl⟩
      | true =>
        cases h2 : inB t2 0 10000 with
        | false =>
          have HR := Lib.hid (HBAD.out (by unfold wiB; rw [h2]; simp))
          clear HOK HBAD
          go_wp2_with (first | (go_at_call 33; refine (l06Way_any _ _ t1 _ _ _ _ _ hmaxn HQ HRI.out hq).mono ?_; rintro e w' ⟨rfl, rfl⟩) | (go_at_call 34; refine (l08Tick_any _ _).mono ?_; rintro e w' ⟨rfl, rfl⟩))
          go_ret
          exact ⟨ret_bool HR.out.symm, rfl⟩
        | true =>
          cases h3 : inB t3 0 10000 with
          | false =>
            have HR := Lib.hid (HBAD.out (by unfold wiB; rw [h3]; simp))
            clear HOK HBAD
            go_wp2_with (first | (go_at_call 33; refine (l06Way_any _ _ t1 _ _ _ _ _ hmaxn HQ HRI.out hq).mono ?_; rintro e w' ⟨rfl, rfl⟩) | (go_at_call 34; refine (l08Tick_any _ _).mono ?_; rintro e w' ⟨rfl, rfl⟩))
            go_ret
            exact ⟨ret_bool HR.out.symm, rfl⟩
          | true =>
            have HOK2 := Lib.hid (HOK.out (by unfold wiB; rw [ht, h2, h3]; rfl))
            clear HOK HBAD
            go_wp2_with (first | (go_at_call 33; refine (l06Way_any _ _ t1 _ _ _ _ _ hmaxn HQ HRI.out hq).mono ?_; rintro e w' ⟨rfl, rfl⟩) | (go_at_call 34; refine (l08Tick_any _ _).mono ?_; rintro e w' ⟨rfl, rfl⟩))
            go_round
            case rel => exact ⟨k + 1, by omega, by go_num, HOK2.out⟩
            case measure => simp [intOf]; omega
    · have HR : Hid (whB l ts = (tmB l && decide ((m : Int) ≤ 6))) := by
        unfold Hid whB
        rw [hn.out, hm.out, all_yes (fun j hj => HALL.out j hj (by rw [hm.out] at hj; omega)), Bool.and_true, show decide (m ≤ 6) = decide ((m : Int) ≤ 6) from decide_eq_decide.2 (by omega)]
      cases htm : tmB l with
      | false =>
        rw [htm] at HR
        go_wp2_with (go_at_call 35; refine (l06Times_any a l n ca _ hn HA.out hmaxn).mono ?_; rintro e w' ⟨rfl, rfl⟩)
        go_ret
        exact ⟨ret_bool (by rw [HR.out]; rfl), rfl⟩
      | true =>
        rw [htm] at HR
        go_wp2_with (go_at_call 35; refine (l06Times_any a l n ca _ hn HA.out hmaxn).mono ?_; rintro e w' ⟨rfl, rfl⟩)
        go_ret
        exact ⟨ret_bool (by rw [HR.out]; rfl), rfl⟩

theorem specValidWishes_any (w : World) {a0 : Option Addr} {n0 c0 : Nat} (l0 : List Int) (hn0 : Hid (l0.length = n0)) (h0 : RI w a0 l0) (hs0 : n0 ≤ 1048576) (_wf0 : Hid (∀ k ∈ l0, (Lit.int .i64 k).wf = true)) {a1 : Option Addr} {n1 c1 : Nat} (ts1 : List TWish) (hn1 : Hid (ts1.length = n1)) (h1 : RN 1048576 3 cWish w a1 ts1) (hs1 : n1 ≤ 1048576) (_wf1 : Hid (∀ t ∈ ts1, wfWish t)) :
    Calls Try.prog 7 #[.slice a0 n0 c0, .slice a1 n1 c1] w fun e w' => e = .returned (.bool (whB l0 ts1)) ∧ Below w.heap.size w w' := by
  go_enter Try.func7, Try.ntmps7
  go_wp2_with (go_at_call 21; refine (l08Ok_any a0 a1 l0 ts1 n0 c0 n1 c1 _ hn0 h0 hs0 hn1 h1 hs1).mono ?_; rintro e w' ⟨rfl, rfl⟩)
  go_ret
  exact ⟨rfl, Below.refl _ _⟩

set_option maxHeartbeats 2000000 in
theorem valWishes_any (a b : Option Addr) (l : List Int) (ts : List TWish) (n ca m cb : Nat) (w : World) (hn : Hid (l.length = n)) (ha : RI w a l) (hmaxn : n ≤ 1048576) (hm : Hid (ts.length = m)) (hb : RN 1048576 3 cWish w b ts) (hmax : m ≤ 1048576) :
    Calls Try.prog 10 #[.slice a n ca, .slice b m cb] w fun e w' => e = .returned (.bool (whB l ts)) ∧ Below w.heap.size w w' := by
  have HB : Hid (RN 1048576 3 cWish w b ts) := hb
  have VT := valTimes_any a l n ca w hn ha hmaxn
  clear ha hb
  cases htm : tmB l with
  | false =>
    have HR : Hid (whB l ts = false) := by unfold Hid whB; rw [htm]; rfl
    rw [htm] at VT
    go_enter Try.func10, Try.ntmps10
    go_wp2_with (go_at_call 23; refine VT.mono ?_; rintro e w' ⟨rfl, rfl⟩)
    go_ret
    exact ⟨ret_bool HR.out.symm, Below.refl _ _⟩
  | true =>
  rw [htm] at VT
  by_cases h6 : 6 < m
  · have HR : Hid (whB l ts = false) := by unfold Hid whB; rw [hm.out, show decide (m ≤ 6) = false from decide_eq_false (by omega)]; simp
    go_enter Try.func10, Try.ntmps10
    go_wp2_with (go_at_call 23; refine VT.mono ?_; rintro e w' ⟨rfl, rfl⟩)
    go_ret
    exact ⟨ret_bool HR.out.symm, Below.refl _ _⟩
  have HTM := Lib.hid htm
  go_enter Try.func10, Try.ntmps10
  go_wp2_with (go_at_call 23; refine VT.mono ?_; rintro e w' ⟨rfl, rfl⟩)
  clear VT htm
  go_loopw [17] (fun i wr => ∃ k : Nat, k ≤ m ∧ i = .int .i64 k ∧ Below w.heap.size w wr ∧ ∀ j (h : j < ts.length), j < k → wiB n ts[j] = true) (fun i _ => m - (intOf i).toNat)
  case atStart => exact ⟨0, by omega, rfl, Below.refl _ _, fun j _ hj => by omega⟩
  case round =>
    obtain ⟨k, hk, rfl, hbel, hall⟩ := hrel
    have HALL := Lib.hid hall
    clear hall
    by_cases hlt : k < m
    · have hka : k < ts.length := by rw [hm.out]; exact hlt
      have HBAD : Hid (wiB n ts[k] = false → whB l ts = false) := fun h => by unfold whB; rw [hn.out, all_no (f := wiB (n : Int)) k hka h]; simp
      have HOK : Hid (wiB n ts[k] = true → ∀ j (h : j < ts.length), j < k + 1 → wiB n ts[j] = true) := fun ht j h hj => if e : j = k then (by subst e; exact ht) else HALL.out j h (by omega)
      obtain ⟨b, off, ai, ci, rfl, hbl, hri, hq, hc⟩ := HB.out.at_ k hka
      have x0 := hc 0 _ rfl
      have x1 := hc 1 _ rfl
      have x2 := hc 2 _ rfl
      simp only [Nat.add_zero] at x0
      have HRI : Hid (∀ w', Below w.heap.size w w' → RI w' ai ts[k].1) := fun w' h => hri.below h
      clear hri hc
      rw [← hbel.cell (p := ⟨_, _, none⟩) hbl] at x0 x1 x2
      generalize ts[k] = t at x0 x1 x2 HRI hq HBAD HOK
      obtain ⟨t1, t2, t3⟩ := t
      dsimp only at x0 x1 x2 HRI hq HBAD HOK
      generalize hql : t1.length = q at x0 hq
      have HQ := Lib.hid hql
      clear hql
      have hk0 : (0 : Int) ≤ (k : Int) := by omega
      have hk1 : (k : Int) < (m : Int) := by omega
      have hwr : w.heap.size ≤ wr.heap.size := hbel.size
      have HBEL := Lib.hid hbel
      clear hbel
      cases ht : wyB n t1 with
      | false =>
        have HR := Lib.hid (HBAD.out (by unfold wiB; rw [ht]; simp))
        clear HOK HBAD
        go_wp2_with (first | (go_at_call 25; refine (isWithin_any _ _ _ _).mono ?_; rintro e w' ⟨rfl, rfl⟩) | (go_at_call 24; refine (isRunWay_any _ _ t1 _ _ _ _ _ hmaxn HQ (HRI.out _ (by repeat (first | exact HBEL.out | refine Below.alloc ?_ (by first | omega | (simp; done) | (simp; omega)) _ | refine Below.setCell ?_ (by first | omega | (simp; done) | (simp; omega)) _))) hq).mono ?_; rintro e w' ⟨rfl, rfl⟩))
        go_ret
        exact ⟨ret_bool HR.out.symm, (by repeat (first | exact HBEL.out | refine Below.alloc ?_ (by first | omega | (simp; done) | (simp; omega)) _ | refine Below.setCell ?_ (by first | omega | (simp; done) | (simp; omega)) _))⟩
      | true =>
        cases h2 : inB t2 0 10000 with
        | false =>
          have HR := Lib.hid (HBAD.out (by unfold wiB; rw [h2]; simp))
          clear HOK HBAD
          go_wp2_with (first | (go_at_call 25; refine (isWithin_any _ _ _ _).mono ?_; rintro e w' ⟨rfl, rfl⟩) | (go_at_call 24; refine (isRunWay_any _ _ t1 _ _ _ _ _ hmaxn HQ (HRI.out _ (by repeat (first | exact HBEL.out | refine Below.alloc ?_ (by first | omega | (simp; done) | (simp; omega)) _ | refine Below.setCell ?_ (by first | omega | (simp; done) | (simp; omega)) _))) hq).mono ?_; rintro e w' ⟨rfl, rfl⟩))
          go_ret
          exact ⟨ret_bool HR.out.symm, (by repeat (first | exact HBEL.out | refine Below.alloc ?_ (by first | omega | (simp; done) | (simp; omega)) _ | refine Below.setCell ?_ (by first | omega | (simp; done) | (simp; omega)) _))⟩
        | true =>
          cases h3 : inB t3 0 10000 with
          | false =>
            have HR := Lib.hid (HBAD.out (by unfold wiB; rw [h3]; simp))
            clear HOK HBAD
            go_wp2_with (first | (go_at_call 25; refine (isWithin_any _ _ _ _).mono ?_; rintro e w' ⟨rfl, rfl⟩) | (go_at_call 24; refine (isRunWay_any _ _ t1 _ _ _ _ _ hmaxn HQ (HRI.out _ (by repeat (first | exact HBEL.out | refine Below.alloc ?_ (by first | omega | (simp; done) | (simp; omega)) _ | refine Below.setCell ?_ (by first | omega | (simp; done) | (simp; omega)) _))) hq).mono ?_; rintro e w' ⟨rfl, rfl⟩))
            go_ret
            exact ⟨ret_bool HR.out.symm, (by repeat (first | exact HBEL.out | refine Below.alloc ?_ (by first | omega | (simp; done) | (simp; omega)) _ | refine Below.setCell ?_ (by first | omega | (simp; done) | (simp; omega)) _))⟩
          | true =>
            have HOK2 := Lib.hid (HOK.out (by unfold wiB; rw [ht, h2, h3]; rfl))
            clear HOK HBAD
            go_wp2_with (first | (go_at_call 25; refine (isWithin_any _ _ _ _).mono ?_; rintro e w' ⟨rfl, rfl⟩) | (go_at_call 24; refine (isRunWay_any _ _ t1 _ _ _ _ _ hmaxn HQ (HRI.out _ (by repeat (first | exact HBEL.out | refine Below.alloc ?_ (by first | omega | (simp; done) | (simp; omega)) _ | refine Below.setCell ?_ (by first | omega | (simp; done) | (simp; omega)) _))) hq).mono ?_; rintro e w' ⟨rfl, rfl⟩))
            go_roundw
            case rel => exact ⟨k + 1, by omega, by go_num, (by repeat (first | exact HBEL.out | refine Below.alloc ?_ (by first | omega | (simp; done) | (simp; omega)) _ | refine Below.setCell ?_ (by first | omega | (simp; done) | (simp; omega)) _)), HOK2.out⟩
            case measure => simp [intOf]; omega
    · have HR : Hid (whB l ts = true) := by
        unfold Hid whB
        rw [HTM.out, hn.out, hm.out, all_yes (fun j hj => HALL.out j hj (by rw [hm.out] at hj; omega)), Bool.and_true, Bool.true_and]
        simp; omega
      go_wp2
      go_ret
      exact ⟨ret_bool HR.out.symm, hbel⟩

theorem implValidWishes_any (w : World) {a0 : Option Addr} {n0 c0 : Nat} (l0 : List Int) (hn0 : Hid (l0.length = n0)) (h0 : RI w a0 l0) (hs0 : n0 ≤ 1048576) (_wf0 : Hid (∀ k ∈ l0, (Lit.int .i64 k).wf = true)) {a1 : Option Addr} {n1 c1 : Nat} (ts1 : List TWish) (hn1 : Hid (ts1.length = n1)) (h1 : RN 1048576 3 cWish w a1 ts1) (hs1 : n1 ≤ 1048576) (_wf1 : Hid (∀ t ∈ ts1, wfWish t)) :
    Calls Try.prog 10 #[.slice a0 n0 c0, .slice a1 n1 c1] w fun e w' => e = .returned (.bool (whB l0 ts1)) ∧ Below w.heap.size w w' :=
  valWishes_any a0 a1 l0 ts1 n0 c0 n1 c1 w hn0 h0 hs0 hn1 h1 hs1
def wcode (l : List Int) (ts : List TWish) : Int := if whB l ts = true then 0 else 1
theorem checkWishes_any (a b : Option Addr) (l : List Int) (ts : List TWish) (n ca m cb : Nat) (w : World) (hn : Hid (l.length = n)) (ha : RI w a l) (hmaxn : n ≤ 1048576) (hm : Hid (ts.length = m)) (hb : RN 1048576 3 cWish w b ts) (hmax : m ≤ 1048576) :
    Calls Try.prog 28 #[.slice a n ca, .slice b m cb] w fun e w' => e = .returned (.int .i64 (wcode l ts)) ∧ Below w.heap.size w w' := by
  have VR := valWishes_any a b l ts n ca m cb w hn ha hmaxn hm hb hmax
  clear ha hb
  cases h : whB l ts with
  | false =>
    have HR : Hid (wcode l ts = 1) := by unfold Hid wcode; rw [h]; rfl
    rw [h] at VR
    go_enter Try.func28, Try.ntmps28
    go_wp2_with (go_at_call 10; refine VR.mono ?_; rintro e w' ⟨rfl, hb1⟩)
    go_ret
    exact ⟨ret_int HR.out.symm, hb1⟩
  | true =>
    have HR : Hid (wcode l ts = 0) := by unfold Hid wcode; rw [h]; rfl
    rw [h] at VR
    go_enter Try.func28, Try.ntmps28
    go_wp2_with (go_at_call 10; refine VR.mono ?_; rintro e w' ⟨rfl, hb1⟩)
    go_ret
    exact ⟨ret_int HR.out.symm, hb1⟩
end Go.Proofs.Ytdllfkgljnapoaa
