/-
  Stocks: when they are valid; sums of lists; the walks of the tests, the model's and the program's.
-/
import Derived.Test.YtghpefdleiebmaaRowAt
namespace Go.Proofs.Ytghpefdleiebmaa
open Go.RowKit

def stB (l : List Int) : Bool := inB (l.length : Int) 2 10 && (l.all (fun t => inB t 0 200) && decide (l.sum ≤ 200))
def sumAt (l : List Int) (k : Nat) : Int := (l.take k).sum
theorem sumAt_zero (l : List Int) : sumAt l 0 = 0 := by simp [sumAt]
theorem sumAt_succ (l : List Int) (k : Nat) (h : k < l.length) : sumAt l (k + 1) = sumAt l k + l[k] := by
  unfold sumAt
  rw [List.take_succ_eq_append_getElem h, List.sum_append]
  simp
theorem sumAt_all {l : List Int} {n : Nat} (h : l.length = n) : sumAt l n = l.sum := by unfold sumAt; rw [← h, List.take_length]
/-- Numbers from -200 to 200, few of them. -/
def smallL (l : List Int) : Prop := l.length ≤ 10 ∧ ∀ k (h : k < l.length), -200 ≤ l[k] ∧ l[k] ≤ 200
theorem sumAt_bd {l : List Int} (h : smallL l) (k : Nat) (hk : k ≤ l.length) : -200 * (k : Int) ≤ sumAt l k ∧ sumAt l k ≤ 200 * (k : Int) := by
  induction k with
  | zero => rw [sumAt_zero]; omega
  | succ k ih =>
    have h1 := ih (by omega)
    have h2 := h.2 k (by omega)
    rw [sumAt_succ _ _ (by omega)]
    omega
theorem stB_len {l : List Int} (h : stB l = true) : 2 ≤ l.length ∧ l.length ≤ 10 := by
  unfold stB at h
  rw [Bool.and_eq_true] at h
  have := inB_of h.1
  omega
theorem stB_at {l : List Int} (h : stB l = true) (k : Nat) (hk : k < l.length) : 0 ≤ l[k] ∧ l[k] ≤ 200 := by
  unfold stB at h
  rw [Bool.and_eq_true, Bool.and_eq_true] at h
  exact inB_of (all_at (f := fun t => inB t 0 200) h.2.1 k hk)
theorem stB_small {l : List Int} (h : stB l = true) : smallL l := ⟨(stB_len h).2, fun k hk => by have := stB_at h k hk; omega⟩
theorem stB_sum {l : List Int} (h : stB l = true) : l.sum ≤ 200 := by
  unfold stB at h
  rw [Bool.and_eq_true, Bool.and_eq_true] at h
  exact of_decide_eq_true h.2.2

theorem areWithin_any (a : Option Addr) (l : List Int) (n ca : Nat) (hi : Int) (w : World) (hn : Hid (l.length = n)) (ha : RI w a l) (hmax : n ≤ 1048576) :
    Calls Try.prog 86 #[.slice a n ca, .int .i64 hi] w fun e w' => e = .returned (.bool (l.all (fun t => inB t 0 hi))) ∧ w = w' := by
  have HA := Lib.hid ha
  clear ha
  go_enter Try.func86, Try.ntmps86
  go_wp2
  go_loop [9] (fun i => ∃ k : Nat, k ≤ n ∧ i = .int .i64 k ∧ ∀ j (h : j < l.length), j < k → inB l[j] 0 hi = true) (fun i => n - (intOf i).toNat)
  case atStart => exact ⟨0, by omega, rfl, fun j _ hj => by omega⟩
  case round =>
    obtain ⟨k, hk, rfl, hall⟩ := hrel
    have HALL := Lib.hid hall
    clear hall
    by_cases hlt : k < n
    · have hka : k < l.length := by rw [hn.out]; exact hlt
      have HBAD : Hid (inB l[k] 0 hi = false → l.all (fun t => inB t 0 hi) = false) := fun h => all_no (f := fun t => inB t 0 hi) k hka h
      have HOK : Hid (inB l[k] 0 hi = true → ∀ j (h : j < l.length), j < k + 1 → inB l[j] 0 hi = true) := fun ht j h hj => if e : j = k then (by subst e; exact ht) else HALL.out j h (by omega)
      obtain ⟨b, off, rfl, _, x1⟩ := HA.out.at_ k hka
      generalize l[k] = t at x1 HBAD HOK
      have hk0 : (0 : Int) ≤ (k : Int) := by omega
      have hk1 : (k : Int) < (n : Int) := by omega
      cases ht : inB t 0 hi with
      | true =>
        have HOK2 := Lib.hid (HOK.out ht)
        clear HOK HBAD
        go_wp2_with (go_at_call 42; refine (isWithin_any _ _ _ _).mono ?_; rintro e w' ⟨rfl, rfl⟩)
        go_round
        case rel => exact ⟨k + 1, by omega, by go_num, HOK2.out⟩
        case measure => simp [intOf]; omega
      | false =>
        have HR := Lib.hid (HBAD.out ht)
        clear HOK HBAD
        go_wp2_with (go_at_call 42; refine (isWithin_any _ _ _ _).mono ?_; rintro e w' ⟨rfl, rfl⟩)
        go_ret
        exact ⟨ret_bool HR.out.symm, rfl⟩
    · have HR : Hid (l.all (fun t => inB t 0 hi) = true) := all_yes (fun j hj => HALL.out j hj (by rw [hn.out] at hj; omega))
      go_wp2
      go_ret
      exact ⟨ret_bool HR.out.symm, rfl⟩

def stcode (l : List Int) : Int := if stB l = true then 0 else 1
end Go.Proofs.Ytghpefdleiebmaa
