/-
  The walks of l03List, checkRideList, ticksOfAll and TicksOfWay, the model's and the program's.
-/
import Derived.Test.YtcehkkamepdkoaaTicks
namespace Go.Proofs.Ytcehkkamepdkoaa
open Go.RowKit

def listB (ts : List R4) : Bool := ts.all rideB && decide (ts.length ≤ 8)
theorem listB_bad (ts : List R4) (k : Nat) (hk : k < ts.length) (h : rideB ts[k] = false) : listB ts = false := by
  unfold listB
  have : ts.all rideB = false := by
    rw [List.all_eq_false]
    exact ⟨ts[k], List.getElem_mem hk, by simp [h]⟩
  rw [this]; rfl
theorem listB_long (ts : List R4) (h : 8 < ts.length) : listB ts = false := by
  unfold listB
  rw [decide_eq_false (by omega)]; simp
theorem listB_all (ts : List R4) (h : ∀ k (hk : k < ts.length), rideB ts[k] = true) : listB ts = decide (ts.length ≤ 8) := by
  unfold listB
  have : ts.all rideB = true := by
    rw [List.all_eq_true]
    intro c hc
    obtain ⟨k, hk, rfl⟩ := List.getElem_of_mem hc
    exact h k hk
  rw [this]; rfl
theorem listB_parts {ts : List R4} (h : listB ts = true) : ts.length ≤ 8 ∧ ∀ k (hk : k < ts.length), rideB ts[k] = true := by
  unfold listB at h
  simp only [Bool.and_eq_true, decide_eq_true_eq, List.all_eq_true] at h
  exact ⟨h.2, fun k hk => h.1 _ (List.getElem_mem hk)⟩
theorem listB_code (ts : List R4) (h : ts.length ≤ 8) : codeR ts = okC (listB ts) := by
  unfold codeR okC listB
  rw [decide_eq_true h, Bool.and_true]
/-- The ticks of the first k rides. -/
def sumTo (ts : List R4) : Nat → Int
  | 0 => 0
  | k + 1 => sumTo ts k + (if h : k < ts.length then ticksR ts[k] else 0)
theorem sumTo_step (ts : List R4) (k : Nat) (h : k < ts.length) : sumTo ts (k + 1) = sumTo ts k + ticksR ts[k] := by
  show sumTo ts k + _ = _
  rw [dif_pos h]
theorem sumTo_bounds {ts : List R4} (hv : ∀ k (hk : k < ts.length), rideB ts[k] = true) : ∀ k, k ≤ ts.length → 0 ≤ sumTo ts k ∧ sumTo ts k ≤ k * 2000000
  | 0, _ => by simp [sumTo]
  | k + 1, h => by
    have ih := sumTo_bounds hv k (by omega)
    have hb := ticks_bounds (hv k (by omega))
    rw [sumTo_step ts k (by omega)]
    omega
def wayA (ts : List R4) : Int := if listB ts then sumTo ts ts.length else 0
def wayV (ts : List R4) : Value := .tuple #[.int .i64 (wayA ts), .int .i64 (okC (listB ts))]
theorem wayV_bad {ts : List R4} (h : listB ts = false) : wayV ts = .tuple #[.int .i64 0, .int .i64 1] := by unfold wayV wayA okC; rw [h]; rfl
theorem wayV_good {ts : List R4} (h : listB ts = true) : wayV ts = .tuple #[.int .i64 (sumTo ts ts.length), .int .i64 0] := by unfold wayV wayA okC; rw [h]; rfl

set_option maxHeartbeats 1000000 in
theorem l03List_any (a : Option Addr) (ts : List R4) (n ca : Nat) (w : World) (hn : Hid (ts.length = n)) (ha : RR 4 cRide w a ts) (hmax : n ≤ 1048576) :
    Calls Try.prog 57 #[.slice a n ca] w fun e w' => e = .returned (.bool (listB ts)) ∧ Below w.heap.size w w' := by
  by_cases hz : n = 0
  · have HZ := Lib.hid hz
    clear hz
    have HR : Hid (listB ts = true) := (listB_all ts (fun k hk => by rw [hn.out, HZ.out] at hk; omega)).trans (by rw [hn.out, HZ.out]; rfl)
    go_enter Try.func57, Try.ntmps57
    go_wp2
    go_loop [3] (fun i => ∃ k : Nat, k ≤ n ∧ i = .int .i64 k) (fun _ => 0)
    case atStart => exact ⟨0, by omega, rfl⟩
    case round =>
      obtain ⟨k, hk, rfl⟩ := hrel
      have hlt : ¬ k < n := by rw [HZ.out]; omega
      have h8 : n ≤ 8 := by rw [HZ.out]; omega
      go_wp2
      go_ret
      exact ⟨ret_bool (by rw [HR.out]; exact decide_eq_true (by have := HZ.out; omega)), (by repeat (first | exact Below.refl _ _ | exact HB.out | refine Below.drew ?_ | refine Below.drewN' ?_ _ | refine Below.alloc ?_ (by first | omega | (simp; try omega)) _ | refine Below.setCell ?_ (by first | omega | (simp; try omega)) _))⟩
  · obtain ⟨b, off, rfl, hb, hc⟩ := ha.addr (by rw [hn.out]; omega)
    have HC := Lib.hid hc
    clear hc ha
    go_enter Try.func57, Try.ntmps57
    go_wp2
    go_loopw [3] (fun i wr => ∃ k : Nat, k ≤ n ∧ i = .int .i64 k ∧ Below w.heap.size w wr ∧ ∀ j (h : j < ts.length), j < k → rideB ts[j] = true) (fun i _ => n - (intOf i).toNat)
    case atStart => exact ⟨0, by omega, rfl, Below.refl _ _, fun j _ hj => by omega⟩
    case round =>
      obtain ⟨k, hk, rfl, hbel, hall⟩ := hrel
      have HALL := Lib.hid hall
      clear hall
      by_cases hlt : k < n
      · have hka : k < ts.length := by rw [hn.out]; exact hlt
        have hbad := fun h => Lib.hid (listB_bad ts k hka h)
        obtain ⟨x0, x1, x2, x3⟩ := cRide_at HC.out k hka
        have HSM : Hid (rideB ts[k] = true → ∀ j (h : j < ts.length), j < k + 1 → rideB ts[j] = true) := fun ht j h hj => if e : j = k then (by subst e; exact ht) else HALL.out j h (by omega)
        generalize ts[k] = t at x0 x1 x2 x3 HSM hbad
        rw [← hbel.cell (p := ⟨_, _, none⟩) hb] at x0 x1 x2 x3
        have hk0 : (0 : Int) ≤ (k : Int) := by omega
        have hk1 : (k : Int) < (n : Int) := by omega
        cases ht : rideB t with
        | true =>
          have HSM2 := Lib.hid (HSM.out ht)
          clear hbad
          go_wp2_with fail
          refine (l03Ok_any b (off + k * 4) t _ x0 x1 x2 x3).mono ?_
          rintro e w1 ⟨rfl, hb1⟩
          have HB1 := Lib.hid (hbel.trans (hb1.mono hbel.size))
          clear hb1 x0 x1 x2 x3
          rw [ht]
          go_wp2
          go_roundw
          case rel => exact ⟨k + 1, by omega, by go_num, HB1.out, HSM2.out⟩
          case measure => simp [intOf]; omega
        | false =>
          have HR := hbad ht
          clear hbad
          go_wp2_with fail
          refine (l03Ok_any b (off + k * 4) t _ x0 x1 x2 x3).mono ?_
          rintro e w1 ⟨rfl, hb1⟩
          have HB1 := Lib.hid (hbel.trans (hb1.mono hbel.size))
          clear hb1 x0 x1 x2 x3
          rw [ht]
          go_wp2
          go_ret
          exact ⟨ret_bool HR.out.symm, HB1.out⟩
      · have HR : Hid (listB ts = decide (ts.length ≤ 8)) := listB_all ts (fun j hj => HALL.out j hj (by rw [hn.out] at hj; omega))
        by_cases h8 : n ≤ 8
        · go_wp2
          go_ret
          exact ⟨ret_bool (by rw [HR.out, hn.out]; exact decide_eq_decide.2 (by omega)), hbel⟩
        · go_wp2
          go_ret
          exact ⟨ret_bool (by rw [HR.out, hn.out]; exact decide_eq_decide.2 (by omega)), hbel⟩

theorem checkRideList_any (a : Option Addr) (ts : List R4) (n ca : Nat) (w : World) (hn : Hid (ts.length = n)) (ha : RR 4 cRide w a ts) (hmax : n ≤ 1048576) :
    Calls Try.prog 58 #[.slice a n ca] w fun e w' => e = .returned (.int .i64 (okC (listB ts))) ∧ Below w.heap.size w w' := by
  by_cases h8 : 8 < n
  · have HR := Lib.hid (listB_long ts (by rw [hn.out]; exact h8))
    go_enter Try.func58, Try.ntmps58
    go_wp2
    go_ret
    exact ⟨ret_int (by rw [HR.out]; rfl), Below.refl _ _⟩
  · have HR := Lib.hid (listB_code ts (by rw [hn.out]; omega))
    go_enter Try.func58, Try.ntmps58
    go_wp2_with fail
    refine (checkRides_any _ ts n _ _ hn ha hmax).mono ?_
    rintro e w1 ⟨rfl, hb1⟩
    go_wp2
    go_ret
    exact ⟨ret_int HR.out, hb1⟩

set_option maxHeartbeats 1000000 in
theorem ticksOfAll_any (a : Option Addr) (ts : List R4) (n ca : Nat) (w : World) (hn : Hid (ts.length = n)) (ha : RR 4 cRide w a ts) (hv : listB ts = true) :
    Calls Try.prog 59 #[.slice a n ca] w fun e w' => e = .returned (.int .i64 (sumTo ts n)) ∧ Below w.heap.size w w' := by
  obtain ⟨h8, hall⟩ := listB_parts hv
  have hn8 : n ≤ 8 := by rw [← hn.out]; exact h8
  have HALL := Lib.hid hall
  have HS : Hid (∀ k, k ≤ n → 0 ≤ sumTo ts k ∧ sumTo ts k ≤ k * 2000000) := fun k hk => sumTo_bounds hall k (by rw [hn.out]; exact hk)
  clear hall h8 hv
  by_cases hz : n = 0
  · subst hz
    go_enter Try.func59, Try.ntmps59
    go_wp2
    go_loop [3, 8] (fun s i => s = .int .i64 0 ∧ i = .int .i64 0) (fun _ _ => 0)
    case atStart => exact ⟨rfl, rfl⟩
    case round =>
      obtain ⟨rfl, rfl⟩ := hrel
      go_wp2
      go_ret
      exact ⟨rfl, (by repeat (first | exact Below.refl _ _ | exact HB.out | refine Below.drew ?_ | refine Below.drewN' ?_ _ | refine Below.alloc ?_ (by first | omega | (simp; try omega)) _ | refine Below.setCell ?_ (by first | omega | (simp; try omega)) _))⟩
  · obtain ⟨b, off, rfl, hb, hc⟩ := ha.addr (by rw [hn.out]; omega)
    have HC := Lib.hid hc
    clear hc ha
    go_enter Try.func59, Try.ntmps59
    go_wp2
    go_loopw [3, 8] (fun s i wr => ∃ k : Nat, k ≤ n ∧ i = .int .i64 k ∧ s = .int .i64 (sumTo ts k) ∧ Below w.heap.size w wr) (fun _ i _ => n - (intOf i).toNat)
    case atStart => exact ⟨0, by omega, rfl, rfl, Below.refl _ _⟩
    case round =>
      obtain ⟨k, hk, rfl, rfl, hbel⟩ := hrel
      by_cases hlt : k < n
      · have hka : k < ts.length := by rw [hn.out]; exact hlt
        obtain ⟨x0, x1, x2, x3⟩ := cRide_at HC.out k hka
        have ht := HALL.out k hka
        have HST := Lib.hid (sumTo_step ts k hka)
        generalize ts[k] = t at x0 x1 x2 x3 HST ht
        rw [← hbel.cell (p := ⟨_, _, none⟩) hb] at x0 x1 x2 x3
        have hk0 : (0 : Int) ≤ (k : Int) := by omega
        have hk1 : (k : Int) < (n : Int) := by omega
        obtain ⟨s0, s1⟩ := HS.out k hk
        obtain ⟨t0, t1⟩ := ticks_bounds ht
        have hsz := hbel.size
        have HB := Lib.hid hbel
        clear hbel
        have hb' : b < wr.heap.size := by omega
        generalize sumTo ts k = s at s0 s1 HST
        go_wp2_with fail
        refine (rticks_any t _ ht).mono ?_
        rintro e w1 ⟨rfl, hb1⟩
        have HB1 : Hid (Below w.heap.size w w1) := (show Below w.heap.size w _ from (by repeat (first | exact Below.refl _ _ | exact HB.out | refine Below.drew ?_ | refine Below.drewN' ?_ _ | refine Below.alloc ?_ (by first | omega | (simp; try omega)) _ | refine Below.setCell ?_ (by first | omega | (simp; try omega)) _))).trans (hb1.mono (by first | omega | (simp; try omega)))
        clear hb1
        go_wp2
        go_roundw
        case rel => exact ⟨k + 1, by omega, by go_num, by rw [HST.out], HB1.out⟩
        case measure => simp [intOf]; omega
      · have e : k = n := by omega
        subst e
        go_wp2
        go_ret
        exact ⟨rfl, hbel⟩

set_option maxHeartbeats 1000000 in
theorem specTicksOfWay_any (a : Option Addr) (ts : List R4) (n ca : Nat) (w : World) (hn : Hid (ts.length = n)) (ha : RR 4 cRide w a ts) (hmax : n ≤ 1048576) :
    Calls Try.prog 23 #[.slice a n ca] w fun e w' => e = .returned (wayV ts) ∧ Below w.heap.size w w' := by
  have HA := Lib.hid ha
  clear ha
  go_enter Try.func23, Try.ntmps23
  go_wp2_with fail
  refine (l03List_any _ ts n _ _ hn HA.out hmax).mono ?_
  rintro e w1 ⟨rfl, hb1⟩
  have HB := Lib.hid hb1
  cases hv : listB ts with
  | false =>
    have HR := Lib.hid (wayV_bad hv)
    go_wp2
    refine bodyPost_ret (v := .tuple #[.int .i64 0, .int .i64 1]) (by simp [results, Try.results23, go_sem]) rfl ⟨by rw [HR.out], (by repeat (first | exact Below.refl _ _ | exact HB.out | refine Below.drew ?_ | refine Below.drewN' ?_ _ | refine Below.alloc ?_ (by first | omega | (simp; try omega)) _ | refine Below.setCell ?_ (by first | omega | (simp; try omega)) _))⟩
  | true =>
    have HR := Lib.hid (wayV_good hv)
    obtain ⟨h8, hall⟩ := listB_parts hv
    have hn8 : n ≤ 8 := by rw [← hn.out]; exact h8
    have HALL := Lib.hid hall
    have HS : Hid (∀ k, k ≤ n → 0 ≤ sumTo ts k ∧ sumTo ts k ≤ k * 2000000) := fun k hk => sumTo_bounds hall k (by rw [hn.out]; exact hk)
    clear hall h8 hv
    by_cases hz : n = 0
    · subst hz
      clear hb1
      have HN := Lib.hid (show sumTo ts ts.length = 0 by rw [hn.out]; rfl)
      go_wp2
      go_loop [4, 5] (fun s i => s = .int .i64 0 ∧ i = .int .i64 0) (fun _ _ => 0)
      case atStart => exact ⟨rfl, rfl⟩
      case round =>
        obtain ⟨rfl, rfl⟩ := hrel
        go_wp2
        refine bodyPost_ret (v := .tuple #[.int .i64 0, .int .i64 0]) (by simp [results, Try.results23, go_sem]) rfl ⟨by rw [HR.out, HN.out], (by repeat (first | exact Below.refl _ _ | exact HB.out | refine Below.drew ?_ | refine Below.drewN' ?_ _ | refine Below.alloc ?_ (by first | omega | (simp; try omega)) _ | refine Below.setCell ?_ (by first | omega | (simp; try omega)) _))⟩
    · obtain ⟨b, off, rfl, hb, hc⟩ := (HA.out.below hb1).addr (by rw [hn.out]; omega)
      have HC := Lib.hid hc
      clear hc HA hb1
      go_wp2
      go_loopw [4, 5] (fun s i wr => ∃ (k m : Nat), k ≤ n ∧ i = .int .i64 k ∧ s = .int .i64 (sumTo ts k) ∧ wr = w1.drewN m) (fun _ i _ => n - (intOf i).toNat)
      case atStart => exact ⟨0, 0, by omega, rfl, rfl, rfl⟩
      case round =>
        obtain ⟨k, m, hk, rfl, rfl, hwr⟩ := hrel
        have hbel : Below w1.heap.size w1 wr := by rw [hwr]; exact Below.drewN' (Below.refl _ _) _
        have HW := Lib.hid hwr
        clear hwr
        by_cases hlt : k < n
        · have hka : k < ts.length := by rw [hn.out]; exact hlt
          obtain ⟨x0, x1, x2, x3⟩ := cRide_at HC.out k hka
          have ht := HALL.out k hka
          have HST := Lib.hid (sumTo_step ts k hka)
          generalize ts[k] = t at x0 x1 x2 x3 HST ht
          rw [← hbel.cell (p := ⟨_, _, none⟩) hb] at x0 x1 x2 x3
          have hk0 : (0 : Int) ≤ (k : Int) := by omega
          have hk1 : (k : Int) < (n : Int) := by omega
          obtain ⟨s0, s1⟩ := HS.out k hk
          obtain ⟨t0, t1⟩ := ticks_bounds ht
          generalize sumTo ts k = s at s0 s1 HST
          clear hbel
          go_wp2_with fail
          refine (l03Ticks_any b (off + k * 4) t _ ht x0 x1 x2 x3).mono ?_
          rintro e w2 ⟨rfl, m2, hw2⟩
          have HW2 : Hid (w2 = w1.drewN (m + m2)) := by unfold Hid; rw [hw2, HW.out]; simp [World.drewN, Nat.add_assoc]
          clear hw2
          go_wp2
          go_roundw
          case rel => exact ⟨k + 1, m + m2, by omega, by go_num, by rw [HST.out], HW2.out⟩
          case measure => simp [intOf]; omega
        · have e : k = n := by omega
          subst e
          have HF : Hid (Below w.heap.size w wr) := HB.out.trans (hbel.mono HB.out.size)
          clear hbel
          have HN := Lib.hid (show sumTo ts ts.length = sumTo ts k by rw [hn.out])
          go_wp2
          refine bodyPost_ret (v := .tuple #[.int .i64 (sumTo ts k), .int .i64 0]) (by simp [results, Try.results23, go_sem]) rfl ⟨by rw [HR.out, HN.out], HF.out⟩

theorem implTicksOfWay_any (a : Option Addr) (ts : List R4) (n ca : Nat) (w : World) (hn : Hid (ts.length = n)) (ha : RR 4 cRide w a ts) (hmax : n ≤ 1048576) :
    Calls Try.prog 25 #[.slice a n ca] w fun e w' => e = .returned (wayV ts) ∧ Below w.heap.size w w' := by
  have HA := Lib.hid ha
  clear ha
  go_enter Try.func25, Try.ntmps25
  go_wp2_with fail
  refine (checkRideList_any _ ts n _ _ hn HA.out hmax).mono ?_
  rintro e w1 ⟨rfl, hb1⟩
  cases hv : listB ts with
  | false =>
    have HR := Lib.hid (wayV_bad hv)
    have hok : okC false = 1 := rfl
    rw [hok]
    go_wp2
    refine bodyPost_ret (v := .tuple #[.int .i64 0, .int .i64 1]) (by simp [results, Try.results25, go_sem]) rfl ⟨by rw [HR.out], hb1⟩
  | true =>
    have HR := Lib.hid (wayV_good hv)
    have HN := Lib.hid (show sumTo ts ts.length = sumTo ts n by rw [hn.out])
    have hok : okC true = 0 := rfl
    rw [hok]
    go_wp2_with fail
    refine (ticksOfAll_any _ ts n _ _ hn (HA.out.below hb1) hv).mono ?_
    rintro e w2 ⟨rfl, hb2⟩
    have HB2 := Lib.hid (hb1.trans (hb2.mono hb1.size))
    clear hb1 hb2
    go_wp2
    refine bodyPost_ret (v := .tuple #[.int .i64 (sumTo ts n), .int .i64 0]) (by simp [results, Try.results25, go_sem]) rfl ⟨by rw [HR.out, HN.out], HB2.out⟩
end Go.Proofs.Ytcehkkamepdkoaa
