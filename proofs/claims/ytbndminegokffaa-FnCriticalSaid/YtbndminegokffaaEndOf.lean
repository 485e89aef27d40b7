/-
  The walks of the checks on a setting and stations (checkSetting, l04Station), and of EndOf, the model's and the program's.
-/
import Derived.Test.YtbndminegokffaaSetRun
namespace Go.Proofs.Ytbndminegokffaa
open Go.RowKit

/-- The code of a network, a setting of it and stations. -/
def setCode (s : Int) (ts : List T3) (set : List Int) (ns : List Int) : Int := if setB s ts set = true then codeOf s ts ns else 1
theorem setCode_inv {s : Int} {ts : List T3} {set ns : List Int} (h : setB s ts set = false) : setCode s ts set ns = 1 := by unfold setCode; rw [h]; rfl
theorem setCode_of {s : Int} {ts : List T3} {set ns : List Int} (h : setB s ts set = true) : setCode s ts set ns = codeOf s ts ns := by unfold setCode; rw [h]; rfl
theorem setCode_ok {s : Int} {ts : List T3} {set ns : List Int} (h : setCode s ts set ns = 0) : setB s ts set = true ∧ ∀ x ∈ ns, stB s x = true := by
  unfold setCode at h
  split at h
  · rename_i hb
    exact ⟨hb, (codeOf_ok_parts h).2⟩
  · omega
theorem codeOf_twice (s : Int) (ts : List T3) (x : Int) : codeOf s ts [x, x] = codeOf s ts [x] := by unfold codeOf; simp

/-- What EndOf returns: the station, and the code. -/
def endOf (s : Int) (ts : List T3) (set : List Int) (x : Int) : Int × Int :=
  if setCode s ts set [x] = 0 then (match runF ts set (-1) s.toNat x with
    | some p => (p.2, 0)
    | none => (0, 9)) else (0, setCode s ts set [x])
theorem ret_ints {p : Int × Int} {y z : Int} (h : p = (y, z)) : Ending.returned (.tuple #[.int .i64 y, .int .i64 z]) = .returned (.tuple #[.int .i64 p.1, .int .i64 p.2]) := by rw [h]
theorem setCode_twice (s : Int) (ts : List T3) (set : List Int) (x : Int) : setCode s ts set [x, x] = setCode s ts set [x] := by unfold setCode; rw [codeOf_twice]
theorem run_end {s : Int} {ts : List T3} {set : List Int} (hset : setB s ts set = true) (to : Int) (f : Nat) (x : Int) (hx : stB s x = true) {p : List Int × Int} (h : runF ts set to f x = some p) : stB s p.2 = true := by
  induction f generalizing x p with
  | zero => exact absurd h (by simp [runF])
  | succ f ih =>
    unfold runF at h
    by_cases hf : finAt set to x
    · rw [if_pos hf] at h
      injection h with h; subst h; exact hx
    · rw [if_neg hf] at h
      obtain ⟨k, _, hk, e, o⟩ := setB_at hset hx
      rcases o with o | ⟨j, t, o1, o2, _, o4⟩
      · exact absurd (.inr (e.trans o)) hf
      · cases hr : runF ts set to f (nextAt ts set x) with
        | none => rw [hr] at h; exact absurd h (by simp)
        | some r =>
          rw [hr] at h
          injection h with h; subst h
          have hnx : stB s (nextAt ts set x) = true := by rw [nextAt_of (e.trans o1) o2]; exact o4
          have := ih _ hnx hr
          exact this

end Go.Proofs.Ytbndminegokffaa
