/-
  Small functions of the laws on chapters: a2Has, a2Rises, a2Long, a2At.
-/
import Derived.Test.YtenjigifjkfiaaaRowAt
import Derived.Test.YtenjigifjkfiaaaBase
import Derived.Outline
import Derived.LoopTactic
import Derived.BigQuiet
import Derived.Deep.QuietTactic
namespace Go.Proofs.Ytenjigifjkfiaaa
open Go.RowKit

def hasA (l : List Int) (x : Int) : Bool := decide (x ∈ l)
theorem hasA_yes {l : List Int} {x : Int} (k : Nat) (hk : k < l.length) (h : l[k] = x) : hasA l x = true := decide_eq_true (h ▸ List.getElem_mem hk)
theorem hasA_no {l : List Int} {x : Int} (h : ∀ k (hk : k < l.length), ¬ l[k] = x) : hasA l x = false := decide_eq_false (fun hm => by
  obtain ⟨k, hk, e⟩ := List.getElem_of_mem hm
  exact h k hk e)
theorem a2Has_any (a : Option Addr) (l : List Int) (n ca : Nat) (x : Int) (w : World) (hn : Hid (l.length = n)) (ha : RI w a l) (hmax : n ≤ 1048576) :
    Calls Try.prog 20 #[.slice a n ca, .int .i64 x] w fun e w' => e = .returned (.bool (hasA l x)) ∧ w = w' := by
  have HA := Lib.hid ha
  clear ha
  go_enter Try.func20, Try.ntmps20
  go_wp2
  go_loop [5] (fun i => ∃ k : Nat, k ≤ n ∧ i = .int .i64 (k : Int) ∧ ∀ j (h : j < l.length), j < k → ¬ l[j] = x) (fun i => n - (intOf i).toNat)
  case atStart => exact ⟨0, by omega, rfl, fun j _ hj => by omega⟩
  case round =>
    obtain ⟨k, hk, rfl, hall⟩ := hrel
    have HALL := Lib.hid hall
    clear hall
    by_cases hlt : k < n
    · have hka : k < l.length := by rw [hn.out]; exact hlt
      have HYES : Hid (l[k] = x → hasA l x = true) := hasA_yes k hka
      have HNO : Hid (¬ l[k] = x → ∀ j (h : j < l.length), j < k + 1 → ¬ l[j] = x) := fun h0 j h hj => if e : j = k then (by subst e; exact h0) else HALL.out j h (by omega)
      obtain ⟨b, off, rfl, _, x1⟩ := HA.out.at_ k hka
      generalize l[k] = t at x1 HYES HNO
      have hk0 : (0 : Int) ≤ (k : Int) := by omega
      have hk1 : (k : Int) < (n : Int) := by omega
      rcases eq_ways t x with ⟨⟨e1, e2⟩, e3⟩ | ⟨⟨e1, e2⟩, e3⟩
      · have HR := Lib.hid (HYES.out e3)
        clear HYES HNO e3
        go_wp2
        go_ret
        exact ⟨ret_bool HR.out.symm, rfl⟩
      · have HN := Lib.hid (HNO.out e3)
        clear HYES HNO e3
        go_wp2
        go_round
        case rel => exact ⟨k + 1, by omega, by go_num, HN.out⟩
        case measure => simp [intOf]; omega
    · have HR : Hid (hasA l x = false) := hasA_no (fun j hj => HALL.out j hj (by rw [hn.out] at hj; omega))
      go_wp2
      go_ret
      exact ⟨ret_bool HR.out.symm, rfl⟩
/-- A list of ascending numbers from 0 to m - 1. -/
def Rises (l : List Int) (m : Int) : Prop := (∀ k (h : k < l.length), 0 ≤ l[k] ∧ l[k] < m) ∧ ∀ k (h : k + 1 < l.length), l[k]'(by omega) < l[k + 1]
theorem a2Rises_yes (a : Option Addr) (l : List Int) (n ca : Nat) (m : Int) (w : World) (hn : Hid (l.length = n)) (ha : RI w a l) (hmax : n ≤ 1048576) (hr : Rises l m) :
    Calls Try.prog 18 #[.slice a n ca, .int .i64 m] w fun e w' => e = .returned (.bool true) ∧ ∃ q, w' = w.drewN q := by
  have HA := Lib.hid ha
  have HR := Lib.hid hr
  clear ha hr
  go_enter Try.func18, Try.ntmps18
  go_wp2
  go_loopw [5] (fun i wr => ∃ k q : Nat, k ≤ n ∧ i = .int .i64 (k : Int) ∧ wr = w.drewN q) (fun i _ => n - (intOf i).toNat)
  case atStart => exact ⟨0, 0, by omega, rfl, rfl⟩
  case round =>
    obtain ⟨k, q, hk, rfl, rfl⟩ := hrel
    by_cases hlt : k < n
    · have hka : k < l.length := by rw [hn.out]; exact hlt
      obtain ⟨b, off, rfl, _, x1⟩ := HA.out.at_ k hka
      obtain ⟨r0, r1⟩ := HR.out.1 k hka
      have hk0 : (0 : Int) ≤ (k : Int) := by omega
      have hk1 : (k : Int) < (n : Int) := by omega
      by_cases hz : k = 0
      · have d1 : decide (0 < k) = false := decide_eq_false (by omega)
        have d2 : decide ((0 : Int) < (k : Int)) = false := decide_eq_false (by omega)
        have d3 : decide ((k : Int) > 0) = false := decide_eq_false (by omega)
        generalize l[k] = t at x1 r0 r1
        have e1 : decide (t < 0) = false := decide_eq_false (by omega)
        have e2 : decide (m ≤ t) = false := decide_eq_false (by omega)
        have e3 : decide (t ≥ m) = false := decide_eq_false (by omega)
        clear hz
        go_wp2_with fail
        go_quiet (fail)
        go_wp2
        go_roundw
        case rel => exact ⟨k + 1, _, by omega, by go_num, rfl⟩
        case measure => simp [intOf]; omega
      · have hp : k - 1 + 1 < l.length := by omega
        have hp1 : k - 1 < l.length := Nat.lt_of_succ_lt hp
        have r2 : l[k - 1]'hp1 < l[k] := by
          have ek : l[k - 1 + 1]'hp = l[k] := by congr 1; omega
          rw [← ek]
          exact HR.out.2 (k - 1) hp
        obtain ⟨b', off', he, _, x2⟩ := HA.out.at_ (k - 1) hp1
        injection he with he
        injection he with q1 q2
        subst q1 q2
        have d1 : decide (0 < k) = true := decide_eq_true (by omega)
        have d2 : decide ((0 : Int) < (k : Int)) = true := decide_eq_true (by omega)
        have d3 : decide ((k : Int) > 0) = true := decide_eq_true (by omega)
        have hq0 : (0 : Int) ≤ (k : Int) - 1 := by omega
        have hq1 : (k : Int) - 1 < (n : Int) := by omega
        have hq2 : 1 ≤ k := by omega
        have hq3 : (1 : Int) ≤ (k : Int) := by omega
        have hg0 : (0 : Int) < (k : Int) := by omega
        have hw1 : IntKind.i64.wrap ((k : Int) - 1) = (k : Int) - 1 := IntWalk.i64_in _ (by omega)
        generalize l[k] = t at x1 r0 r1 r2
        generalize l[k - 1] = u at x2 r2
        have e1 : decide (t < 0) = false := decide_eq_false (by omega)
        have e2 : decide (m ≤ t) = false := decide_eq_false (by omega)
        have e3 : decide (t ≥ m) = false := decide_eq_false (by omega)
        have e4 : decide (t ≤ u) = false := decide_eq_false (by omega)
        have e5 : decide (u ≥ t) = false := decide_eq_false (by omega)
        clear hz
        go_wp2_with fail
        go_quiet (fail)
        clear hw1
        go_wp2
        go_roundw
        case rel => exact ⟨k + 1, _, by omega, by go_num, rfl⟩
        case measure => simp [intOf]; omega
    · go_wp2
      go_ret
      exact ⟨rfl, q, rfl⟩
theorem a2Long_any (a b : Option Addr) (n m ca cb : Nat) (w : World) (hn : n ≤ 9223372036854775807) (hm : m ≤ 9223372036854775807) :
    Calls Try.prog 8 #[.slice a n ca, .slice b m cb] w fun e w' => e = .returned (.bool (decide (3000 < n) || decide (3000 < m))) ∧ w = w' := by
  by_cases h1 : 3000 < n
  · have HR : Hid ((decide (3000 < n) || decide (3000 < m)) = true) := by unfold Hid; rw [decide_eq_true h1]; rfl
    have d1 : decide ((3000 : Int) < (n : Int)) = true := decide_eq_true (by omega)
    have d2 : decide ((n : Int) > (3000 : Int)) = true := decide_eq_true (by omega)
    have d3 : (3000 : Int) < (n : Int) := by omega
    go_enter Try.func8, Try.ntmps8
    go_wp2
    go_ret
    exact ⟨ret_bool HR.out.symm, rfl⟩
  · have d1 : decide ((3000 : Int) < (n : Int)) = false := decide_eq_false (by omega)
    have d3 : ¬ (3000 : Int) < (n : Int) := by omega
    by_cases h2 : 3000 < m
    · have HR2 : Hid ((decide (3000 < n) || decide (3000 < m)) = true) := by unfold Hid; rw [decide_eq_false h1]; exact decide_eq_true h2
      have d4 : (3000 : Int) < (m : Int) := by omega
      go_enter Try.func8, Try.ntmps8
      go_wp2
      go_ret
      first | exact ⟨ret_bool HR2.out.symm, rfl⟩ | exact ⟨rfl, rfl⟩
    · have HR2 : Hid ((decide (3000 < n) || decide (3000 < m)) = false) := by unfold Hid; rw [decide_eq_false h1]; exact decide_eq_false h2
      have d4 : ¬ (3000 : Int) < (m : Int) := by omega
      go_enter Try.func8, Try.ntmps8
      go_wp2
      go_ret
      first | exact ⟨ret_bool HR2.out.symm, rfl⟩ | exact ⟨rfl, rfl⟩
end Go.Proofs.Ytenjigifjkfiaaa
