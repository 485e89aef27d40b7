/-
  The walks of the checks on a setting and stations (checkSetting, l04Station), and of EndOf, the model's and the program's.
-/
import Derived.Test.YtkkpfdkclfcdmaaSetRun
namespace Go.Proofs.Ytkkpfdkclfcdmaa
open Go.RowKit

/-- The code of a network, a setting of it and stations. -/
def setCode (s : Int) (ts : List T3) (set : List Int) (ns : List Int) : Int := if setB s ts set = true then codeOf s ts ns else 1
theorem setCode_inv {s : Int} {ts : List T3} {set ns : List Int} (h : setB s ts set = false) : setCode s ts set ns = 1 := by unfold setCode; rw [h]; rfl
theorem setCode_of {s : Int} {ts : List T3} {set ns : List Int} (h : setB s ts set = true) : setCode s ts set ns = codeOf s ts ns := by unfold setCode; rw [h]; rfl
theorem setCode_ok {s : Int} {ts : List T3} {set ns : List Int} (h : setCode s ts set ns = 0) : setB s ts set = true ∧ ∀ x ∈ ns, stB s x = true := by
  unfold setCode at h
  split at h
  · rename_i hb
    exact ⟨hb, (codeOf_ok_parts h).2⟩
  · omega
theorem codeOf_twice (s : Int) (ts : List T3) (x : Int) : codeOf s ts [x, x] = codeOf s ts [x] := by unfold codeOf; simp

theorem checkStations0_any (s : Int) (a d : Option Addr) (ts : List T3) (n ca cd : Nat) (w : World) (hn : Hid (ts.length = n)) (ha : RT w a ts) (hmax : n ≤ 1048576) :
    Calls Try.prog 23 #[.agg #[.int .i64 s, .slice a n ca], .slice d 0 cd] w fun e w' => e = .returned (.int .i64 (codeOf s ts [])) ∧ Below w.heap.size w w' := by
  have HA : Hid (∀ w', Below w.heap.size w w' → RT w' a ts) := fun w' h => ha.below h
  clear ha
  cases hv : netB s ts with
  | false =>
    have HR := Lib.hid (codeOf_inv (ns := []) hv)
    go_enter Try.func23, Try.ntmps23
    go_wp2_with fail
    refine (implValidNet_any s a ts n ca _ hn (HA.out _ (by repeat (first | exact Below.refl _ _ | refine Below.alloc ?_ (by simp; try omega) _ | refine Below.setCell ?_ (by simp; try omega) _))) hmax).mono ?_
    rintro e w1 ⟨rfl, hb1⟩
    go_wp2
    go_ret
    exact ⟨ret_int HR.out.symm, Below.trans (by repeat (first | exact Below.refl _ _ | refine Below.alloc ?_ (by simp; try omega) _ | refine Below.setCell ?_ (by simp; try omega) _)) (hb1.mono (by simp))⟩
  | true =>
    have HR : Hid (codeOf s ts [] = 0) := codeOf_ok hv (fun k hk => absurd hk (by simp))
    go_enter Try.func23, Try.ntmps23
    go_wp2_with fail
    refine (implValidNet_any s a ts n ca _ hn (HA.out _ (by repeat (first | exact Below.refl _ _ | refine Below.alloc ?_ (by simp; try omega) _ | refine Below.setCell ?_ (by simp; try omega) _))) hmax).mono ?_
    rintro e w1 ⟨rfl, hb1⟩
    have B1 := Lib.hid (Below.trans (show Below w.heap.size w (w.alloc (.cells #[.int .i64 s, .slice a n ca] 31)) from (by repeat (first | exact Below.refl _ _ | refine Below.alloc ?_ (by simp; try omega) _ | refine Below.setCell ?_ (by simp; try omega) _))) (hb1.mono (by simp)))
    clear hb1
    go_wp2
    go_loop [12] (fun i => i = .int .i64 0) (fun _ => 0)
    case atStart => rfl
    case round =>
      subst hrel
      go_wp2
      go_ret
      exact ⟨ret_int HR.out.symm, B1.out⟩

theorem checkStationsAll_any (s : Int) (a d : Option Addr) (ts : List T3) (ns : List Int) (n ca k cd : Nat) (w : World) (hn : Hid (ts.length = n)) (ha : RT w a ts) (hmax : n ≤ 1048576)
    (hk : Hid (ns.length = k)) (hd : RI w d ns) (hk1 : k ≤ 1048576) :
    Calls Try.prog 23 #[.agg #[.int .i64 s, .slice a n ca], .slice d k cd] w fun e w' => e = .returned (.int .i64 (codeOf s ts ns)) ∧ Below w.heap.size w w' := by
  by_cases h0 : k = 0
  · subst h0
    have : ns = [] := List.eq_nil_of_length_eq_zero hk.out
    subst this
    exact checkStations0_any s a d ts n ca cd w hn ha hmax
  · exact checkStations_any s a d ts ns n ca k cd w hn ha hmax hk hd (by omega) hk1

/-- What EndOf returns: the station, and the code. -/
def endOf (s : Int) (ts : List T3) (set : List Int) (x : Int) : Int × Int :=
  if setCode s ts set [x] = 0 then (match runF ts set (-1) s.toNat x with
    | some p => (p.2, 0)
    | none => (0, 9)) else (0, setCode s ts set [x])
theorem ret_ints {p : Int × Int} {y z : Int} (h : p = (y, z)) : Ending.returned (.tuple #[.int .i64 y, .int .i64 z]) = .returned (.tuple #[.int .i64 p.1, .int .i64 p.2]) := by rw [h]
theorem setCode_twice (s : Int) (ts : List T3) (set : List Int) (x : Int) : setCode s ts set [x, x] = setCode s ts set [x] := by unfold setCode; rw [codeOf_twice]
theorem run_end {s : Int} {ts : List T3} {set : List Int} (hset : setB s ts set = true) (to : Int) (f : Nat) (x : Int) (hx : stB s x = true) {p : List Int × Int} (h : runF ts set to f x = some p) : stB s p.2 = true := by
  induction f generalizing x p with
  | zero => exact absurd h (by simp [runF])
  | succ f ih =>
    unfold runF at h
    by_cases hf : finAt set to x
    · rw [if_pos hf] at h
      injection h with h; subst h; exact hx
    · rw [if_neg hf] at h
      obtain ⟨k, _, hk, e, o⟩ := setB_at hset hx
      rcases o with o | ⟨j, t, o1, o2, _, o4⟩
      · exact absurd (.inr (e.trans o)) hf
      · cases hr : runF ts set to f (nextAt ts set x) with
        | none => rw [hr] at h; exact absurd h (by simp)
        | some r =>
          rw [hr] at h
          injection h with h; subst h
          have hnx : stB s (nextAt ts set x) = true := by rw [nextAt_of (e.trans o1) o2]; exact o4
          have := ih _ hnx hr
          exact this

end Go.Proofs.Ytkkpfdkclfcdmaa
