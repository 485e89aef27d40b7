/-
  Stocks: when they are valid; sums of lists; the walks of the tests, the model's and the program's.
-/
import Derived.Test.YtabopjdcpllocaaRowAt
namespace Go.Proofs.Ytabopjdcpllocaa
open Go.RowKit

def stB (l : List Int) : Bool := inB (l.length : Int) 2 10 && (l.all (fun t => inB t 0 200) && decide (l.sum ≤ 200))
def sumAt (l : List Int) (k : Nat) : Int := (l.take k).sum
theorem sumAt_zero (l : List Int) : sumAt l 0 = 0 := by simp [sumAt]
theorem sumAt_succ (l : List Int) (k : Nat) (h : k < l.length) : sumAt l (k + 1) = sumAt l k + l[k] := by
  unfold sumAt
  rw [List.take_succ_eq_append_getElem h, List.sum_append]
  simp
theorem sumAt_all {l : List Int} {n : Nat} (h : l.length = n) : sumAt l n = l.sum := by unfold sumAt; rw [← h, List.take_length]
/-- Numbers from -200 to 200, few of them. -/
def smallL (l : List Int) : Prop := l.length ≤ 10 ∧ ∀ k (h : k < l.length), -200 ≤ l[k] ∧ l[k] ≤ 200
theorem sumAt_bd {l : List Int} (h : smallL l) (k : Nat) (hk : k ≤ l.length) : -200 * (k : Int) ≤ sumAt l k ∧ sumAt l k ≤ 200 * (k : Int) := by
  induction k with
  | zero => rw [sumAt_zero]; omega
  | succ k ih =>
    have h1 := ih (by omega)
    have h2 := h.2 k (by omega)
    rw [sumAt_succ _ _ (by omega)]
    omega
theorem stB_len {l : List Int} (h : stB l = true) : 2 ≤ l.length ∧ l.length ≤ 10 := by
  unfold stB at h
  rw [Bool.and_eq_true] at h
  have := inB_of h.1
  omega
theorem stB_at {l : List Int} (h : stB l = true) (k : Nat) (hk : k < l.length) : 0 ≤ l[k] ∧ l[k] ≤ 200 := by
  unfold stB at h
  rw [Bool.and_eq_true, Bool.and_eq_true] at h
  exact inB_of (all_at (f := fun t => inB t 0 200) h.2.1 k hk)
theorem stB_small {l : List Int} (h : stB l = true) : smallL l := ⟨(stB_len h).2, fun k hk => by have := stB_at h k hk; omega⟩
theorem stB_sum {l : List Int} (h : stB l = true) : l.sum ≤ 200 := by
  unfold stB at h
  rw [Bool.and_eq_true, Bool.and_eq_true] at h
  exact of_decide_eq_true h.2.2

theorem l00Sum_any (a : Option Addr) (l : List Int) (n ca : Nat) (w : World) (hn : Hid (l.length = n)) (ha : RI w a l) (hl : smallL l) :
    Calls Try.prog 70 #[.slice a n ca] w fun e w' => e = .returned (.int .i64 l.sum) ∧ w = w' := by
  have HA := Lib.hid ha
  have HL := Lib.hid hl
  have hmax : n ≤ 10 := by have := hl.1; rw [hn.out] at this; exact this
  have HSUM : Hid (sumAt l n = l.sum) := sumAt_all hn.out
  clear ha hl
  go_enter Try.func70, Try.ntmps70
  go_wp2
  go_loop [3, 4] (fun sv iv => ∃ k : Nat, k ≤ n ∧ iv = .int .i64 k ∧ sv = .int .i64 (sumAt l k)) (fun _ iv => n - (intOf iv).toNat)
  case atStart => exact ⟨0, by omega, rfl, by rw [sumAt_zero]⟩
  case round =>
    obtain ⟨k, hk, rfl, rfl⟩ := hrel
    by_cases hlt : k < n
    · have hka : k < l.length := by rw [hn.out]; exact hlt
      have HS := Lib.hid (sumAt_succ l k hka)
      have hbd := sumAt_bd HL.out k (by omega)
      have hat := HL.out.2 k hka
      obtain ⟨b, off, rfl, _, x1⟩ := HA.out.at_ k hka
      generalize l[k] = t at x1 HS hat
      generalize sumAt l k = s at HS hbd
      have hk0 : (0 : Int) ≤ (k : Int) := by omega
      have hk1 : (k : Int) < (n : Int) := by omega
      go_wp2
      go_round
      case rel => exact ⟨k + 1, by omega, by go_num, by rw [HS.out]⟩
      case measure => simp [intOf]; omega
    · have hkn : k = n := by omega
      subst hkn
      rw [HSUM.out]
      go_wp2
      go_ret
      exact ⟨rfl, rfl⟩

theorem sumOf_any (a : Option Addr) (l : List Int) (n ca : Nat) (w : World) (hn : Hid (l.length = n)) (ha : RI w a l) (hl : smallL l) :
    Calls Try.prog 75 #[.slice a n ca] w fun e w' => e = .returned (.int .i64 l.sum) ∧ w = w' := by
  have HA := Lib.hid ha
  have HL := Lib.hid hl
  have hmax : n ≤ 10 := by have := hl.1; rw [hn.out] at this; exact this
  have HSUM : Hid (sumAt l n = l.sum) := sumAt_all hn.out
  clear ha hl
  go_enter Try.func75, Try.ntmps75
  go_wp2
  go_loop [3, 8] (fun sv iv => ∃ k : Nat, k ≤ n ∧ iv = .int .i64 k ∧ sv = .int .i64 (sumAt l k)) (fun _ iv => n - (intOf iv).toNat)
  case atStart => exact ⟨0, by omega, rfl, by rw [sumAt_zero]⟩
  case round =>
    obtain ⟨k, hk, rfl, rfl⟩ := hrel
    by_cases hlt : k < n
    · have hka : k < l.length := by rw [hn.out]; exact hlt
      have HS := Lib.hid (sumAt_succ l k hka)
      have hbd := sumAt_bd HL.out k (by omega)
      have hat := HL.out.2 k hka
      obtain ⟨b, off, rfl, _, x1⟩ := HA.out.at_ k hka
      generalize l[k] = t at x1 HS hat
      generalize sumAt l k = s at HS hbd
      have hk0 : (0 : Int) ≤ (k : Int) := by omega
      have hk1 : (k : Int) < (n : Int) := by omega
      go_wp2
      go_round
      case rel => exact ⟨k + 1, by omega, by go_num, by rw [HS.out]⟩
      case measure => simp [intOf]; omega
    · have hkn : k = n := by omega
      subst hkn
      rw [HSUM.out]
      go_wp2
      go_ret
      exact ⟨rfl, rfl⟩

theorem areWithin_any (a : Option Addr) (l : List Int) (n ca : Nat) (hi : Int) (w : World) (hn : Hid (l.length = n)) (ha : RI w a l) (hmax : n ≤ 1048576) :
    Calls Try.prog 74 #[.slice a n ca, .int .i64 hi] w fun e w' => e = .returned (.bool (l.all (fun t => inB t 0 hi))) ∧ w = w' := by
  have HA := Lib.hid ha
  clear ha
  go_enter Try.func74, Try.ntmps74
  go_wp2
  go_loop [9] (fun i => ∃ k : Nat, k ≤ n ∧ i = .int .i64 k ∧ ∀ j (h : j < l.length), j < k → inB l[j] 0 hi = true) (fun i => n - (intOf i).toNat)
  case atStart => exact ⟨0, by omega, rfl, fun j _ hj => by omega⟩
  case round =>
    obtain ⟨k, hk, rfl, hall⟩ := hrel
    have HALL := Lib.hid hall
    clear hall
    by_cases hlt : k < n
    · have hka : k < l.length := by rw [hn.out]; exact hlt
      have HBAD : Hid (inB l[k] 0 hi = false → l.all (fun t => inB t 0 hi) = false) := fun h => all_no (f := fun t => inB t 0 hi) k hka h
      have HOK : Hid (inB l[k] 0 hi = true → ∀ j (h : j < l.length), j < k + 1 → inB l[j] 0 hi = true) := fun ht j h hj => if e : j = k then (by subst e; exact ht) else HALL.out j h (by omega)
      obtain ⟨b, off, rfl, _, x1⟩ := HA.out.at_ k hka
      generalize l[k] = t at x1 HBAD HOK
      have hk0 : (0 : Int) ≤ (k : Int) := by omega
      have hk1 : (k : Int) < (n : Int) := by omega
      cases ht : inB t 0 hi with
      | true =>
        have HOK2 := Lib.hid (HOK.out ht)
        clear HOK HBAD
        go_wp2_with (go_at_call 38; refine (isWithin_any _ _ _ _).mono ?_; rintro e w' ⟨rfl, rfl⟩)
        go_round
        case rel => exact ⟨k + 1, by omega, by go_num, HOK2.out⟩
        case measure => simp [intOf]; omega
      | false =>
        have HR := Lib.hid (HBAD.out ht)
        clear HOK HBAD
        go_wp2_with (go_at_call 38; refine (isWithin_any _ _ _ _).mono ?_; rintro e w' ⟨rfl, rfl⟩)
        go_ret
        exact ⟨ret_bool HR.out.symm, rfl⟩
    · have HR : Hid (l.all (fun t => inB t 0 hi) = true) := all_yes (fun j hj => HALL.out j hj (by rw [hn.out] at hj; omega))
      go_wp2
      go_ret
      exact ⟨ret_bool HR.out.symm, rfl⟩

theorem isStationCount_any (n : Nat) (w : World) (hmax : n ≤ 1048576) : Calls Try.prog 65 #[.int .i64 n] w fun e w' => e = .returned (.bool (inB (n : Int) 2 10)) ∧ w = w' := by
  by_cases h1 : (2 : Int) ≤ (n : Int)
  · by_cases h2 : (n : Int) ≤ 10
    · have HR : Hid (inB (n : Int) 2 10 = true) := inB_yes ⟨h1, h2⟩
      go_enter Try.func65, Try.ntmps65
      go_wp2
      go_ret
      exact ⟨ret_bool (by rw [HR.out]; try simp [*]), rfl⟩
    · have HR : Hid (inB (n : Int) 2 10 = false) := inB_no (by omega)
      go_enter Try.func65, Try.ntmps65
      go_wp2
      go_ret
      exact ⟨ret_bool (by rw [HR.out]; try simp [*]), rfl⟩
  · have HR : Hid (inB (n : Int) 2 10 = false) := inB_no (by omega)
    go_enter Try.func65, Try.ntmps65
    go_wp2
    go_ret
    exact ⟨ret_bool (by rw [HR.out]; try simp [*]), rfl⟩

theorem l07Ok_any (a : Option Addr) (l : List Int) (n ca : Nat) (w : World) (hn : Hid (l.length = n)) (ha : RI w a l) (hmax : n ≤ 1048576) :
    Calls Try.prog 57 #[.slice a n ca] w fun e w' => e = .returned (.bool (stB l)) ∧ w = w' := by
  have HA := Lib.hid ha
  clear ha
  go_enter Try.func57, Try.ntmps57
  go_wp2
  go_loop [3] (fun i => ∃ k : Nat, k ≤ n ∧ i = .int .i64 k ∧ ∀ j (h : j < l.length), j < k → inB l[j] 0 200 = true) (fun i => n - (intOf i).toNat)
  case atStart => exact ⟨0, by omega, rfl, fun j _ hj => by omega⟩
  case round =>
    obtain ⟨k, hk, rfl, hall⟩ := hrel
    have HALL := Lib.hid hall
    clear hall
    by_cases hlt : k < n
    · have hka : k < l.length := by rw [hn.out]; exact hlt
      have HBAD : Hid (inB l[k] 0 200 = false → stB l = false) := fun h => by unfold stB; rw [all_no (f := fun t => inB t 0 200) k hka h]; simp
      have HOK : Hid (inB l[k] 0 200 = true → ∀ j (h : j < l.length), j < k + 1 → inB l[j] 0 200 = true) := fun ht j h hj => if e : j = k then (by subst e; exact ht) else HALL.out j h (by omega)
      obtain ⟨b, off, rfl, _, x1⟩ := HA.out.at_ k hka
      generalize l[k] = t at x1 HBAD HOK
      have hk0 : (0 : Int) ≤ (k : Int) := by omega
      have hk1 : (k : Int) < (n : Int) := by omega
      cases ht : inB t 0 200 with
      | true =>
        have HOK2 := Lib.hid (HOK.out ht)
        clear HOK HBAD
        go_wp2_with (go_at_call 40; refine (l00In_any _ _ _ _).mono ?_; rintro e w' ⟨rfl, rfl⟩)
        go_round
        case rel => exact ⟨k + 1, by omega, by go_num, HOK2.out⟩
        case measure => simp [intOf]; omega
      | false =>
        have HR := Lib.hid (HBAD.out ht)
        clear HOK HBAD
        go_wp2_with (go_at_call 40; refine (l00In_any _ _ _ _).mono ?_; rintro e w' ⟨rfl, rfl⟩)
        go_ret
        exact ⟨ret_bool HR.out.symm, rfl⟩
    · have HAL : Hid (∀ j (hj : j < l.length), inB l[j] 0 200 = true) := fun j hj => HALL.out j hj (by rw [hn.out] at hj; omega)
      have HR : Hid (stB l = (inB (n : Int) 2 10 && decide (l.sum ≤ 200))) := by
        unfold Hid stB
        rw [hn.out, all_yes (fun j hj => HAL.out j hj), Bool.true_and]
      cases h1 : inB (n : Int) 2 10 with
      | false =>
        rw [h1] at HR
        go_wp2_with (first | (go_at_call 40; refine (l00In_any _ _ _ _).mono ?_; rintro e w' ⟨rfl, rfl⟩))
        go_ret
        exact ⟨ret_bool (by rw [HR.out]; rfl), rfl⟩
      | true =>
        have hsm : smallL l := ⟨by have := inB_of h1; rw [hn.out]; omega, fun j hj => by have := inB_of (HAL.out j hj); omega⟩
        have SU := l00Sum_any a l n ca w hn HA.out hsm
        rw [h1] at HR
        go_wp2_with (first | (go_at_call 40; refine (l00In_any _ _ _ _).mono ?_; rintro e w' ⟨rfl, rfl⟩) | (go_at_call 70; refine SU.mono ?_; rintro e w' ⟨rfl, rfl⟩))
        go_ret
        exact ⟨ret_bool (by rw [HR.out]; rfl), rfl⟩

theorem valStock_any (a : Option Addr) (l : List Int) (n ca : Nat) (w : World) (hn : Hid (l.length = n)) (ha : RI w a l) (hmax : n ≤ 1048576) :
    Calls Try.prog 72 #[.slice a n ca] w fun e w' => e = .returned (.bool (stB l)) ∧ w = w' := by
  have SC := isStationCount_any n w hmax
  have AW := areWithin_any a l n ca 200 w hn ha hmax
  cases h1 : inB (n : Int) 2 10 with
  | false =>
    have HR : Hid (stB l = false) := by unfold Hid stB; rw [hn.out, h1]; rfl
    rw [h1] at SC
    clear ha AW
    go_enter Try.func72, Try.ntmps72
    go_wp2_with (first | (go_at_call 65; refine SC.mono ?_; rintro e w' ⟨rfl, rfl⟩))
    go_ret
    exact ⟨ret_bool HR.out.symm, rfl⟩
  | true =>
    rw [h1] at SC
    cases h2 : l.all (fun t => inB t 0 200) with
    | false =>
      have HR : Hid (stB l = false) := by unfold Hid stB; rw [h2]; simp
      rw [h2] at AW
      clear ha
      go_enter Try.func72, Try.ntmps72
      go_wp2_with (first | (go_at_call 65; refine SC.mono ?_; rintro e w' ⟨rfl, rfl⟩) | (go_at_call 74; refine AW.mono ?_; rintro e w' ⟨rfl, rfl⟩))
      go_ret
      exact ⟨ret_bool HR.out.symm, rfl⟩
    | true =>
      have hsm : smallL l := ⟨by have := inB_of h1; rw [hn.out]; omega, fun j hj => by have := inB_of (all_at (f := fun t => inB t 0 200) h2 j hj); omega⟩
      have SU := sumOf_any a l n ca w hn ha hsm
      have HR : Hid (stB l = decide (l.sum ≤ 200)) := by unfold Hid stB; rw [h2, hn.out, h1]; rfl
      rw [h2] at AW
      clear ha hsm
      go_enter Try.func72, Try.ntmps72
      go_wp2_with (first | (go_at_call 65; refine SC.mono ?_; rintro e w' ⟨rfl, rfl⟩) | (go_at_call 74; refine AW.mono ?_; rintro e w' ⟨rfl, rfl⟩) | (go_at_call 75; refine SU.mono ?_; rintro e w' ⟨rfl, rfl⟩))
      go_ret
      exact ⟨ret_bool HR.out.symm, rfl⟩
theorem implValidStock_any (w : World) {a0 : Option Addr} {n0 c0 : Nat} (l0 : List Int) (hn0 : Hid (l0.length = n0)) (h0 : RI w a0 l0) (hs0 : n0 ≤ 1048576) (_wf0 : Hid (∀ k ∈ l0, (Lit.int .i64 k).wf = true)) :
    Calls Try.prog 72 #[.slice a0 n0 c0] w fun e w' => e = .returned (.bool (stB l0)) ∧ Below w.heap.size w w' :=
  (valStock_any a0 l0 n0 c0 w hn0 h0 hs0).mono fun _ _ ⟨h1, h2⟩ => ⟨h1, h2 ▸ Below.refl _ _⟩
def stcode (l : List Int) : Int := if stB l = true then 0 else 1
theorem checkStock_any (a : Option Addr) (l : List Int) (n ca : Nat) (w : World) (hn : Hid (l.length = n)) (ha : RI w a l) (hmax : n ≤ 1048576) :
    Calls Try.prog 53 #[.slice a n ca] w fun e w' => e = .returned (.int .i64 (stcode l)) ∧ w = w' := by
  have VR := valStock_any a l n ca w hn ha hmax
  clear ha
  cases h : stB l with
  | false =>
    have HR : Hid (stcode l = 1) := by unfold Hid stcode; rw [h]; rfl
    rw [h] at VR
    go_enter Try.func53, Try.ntmps53
    go_wp2_with (go_at_call 72; refine VR.mono ?_; rintro e w' ⟨rfl, rfl⟩)
    go_ret
    exact ⟨ret_int HR.out.symm, rfl⟩
  | true =>
    have HR : Hid (stcode l = 0) := by unfold Hid stcode; rw [h]; rfl
    rw [h] at VR
    go_enter Try.func53, Try.ntmps53
    go_wp2_with (go_at_call 72; refine VR.mono ?_; rintro e w' ⟨rfl, rfl⟩)
    go_ret
    exact ⟨ret_int HR.out.symm, rfl⟩
end Go.Proofs.Ytabopjdcpllocaa
