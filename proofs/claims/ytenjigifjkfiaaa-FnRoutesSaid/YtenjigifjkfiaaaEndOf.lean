/-
  The walks of the checks on a setting and stations (checkSetting, l04Station), and of EndOf, the model's and the program's.
-/
import Derived.Test.YtenjigifjkfiaaaSetRun
namespace Go.Proofs.Ytenjigifjkfiaaa
open Go.RowKit

/-- The code of a network, a setting of it and stations. -/
def setCode (s : Int) (ts : List T3) (set : List Int) (ns : List Int) : Int := if setB s ts set = true then codeOf s ts ns else 1
theorem setCode_inv {s : Int} {ts : List T3} {set ns : List Int} (h : setB s ts set = false) : setCode s ts set ns = 1 := by unfold setCode; rw [h]; rfl
theorem setCode_of {s : Int} {ts : List T3} {set ns : List Int} (h : setB s ts set = true) : setCode s ts set ns = codeOf s ts ns := by unfold setCode; rw [h]; rfl
theorem setCode_ok {s : Int} {ts : List T3} {set ns : List Int} (h : setCode s ts set ns = 0) : setB s ts set = true ∧ ∀ x ∈ ns, stB s x = true := by
  unfold setCode at h
  split at h
  · rename_i hb
    exact ⟨hb, (codeOf_ok_parts h).2⟩
  · omega
theorem codeOf_twice (s : Int) (ts : List T3) (x : Int) : codeOf s ts [x, x] = codeOf s ts [x] := by unfold codeOf; simp

theorem checkStations0_any (s : Int) (a d : Option Addr) (ts : List T3) (n ca cd : Nat) (w : World) (hn : Hid (ts.length = n)) (ha : RT w a ts) (hmax : n ≤ 1048576) :
    Calls Try.prog 51 #[.agg #[.int .i64 s, .slice a n ca], .slice d 0 cd] w fun e w' => e = .returned (.int .i64 (codeOf s ts [])) ∧ Below w.heap.size w w' := by
  have HA : Hid (∀ w', Below w.heap.size w w' → RT w' a ts) := fun w' h => ha.below h
  clear ha
  cases hv : netB s ts with
  | false =>
    have HR := Lib.hid (codeOf_inv (ns := []) hv)
    go_enter Try.func51, Try.ntmps51
    go_wp2_with fail
    refine (implValidNet_any s a ts n ca _ hn (HA.out _ (by repeat (first | exact Below.refl _ _ | refine Below.alloc ?_ (by simp; try omega) _ | refine Below.setCell ?_ (by simp; try omega) _))) hmax).mono ?_
    rintro e w1 ⟨rfl, hb1⟩
    go_wp2
    go_ret
    exact ⟨ret_int HR.out.symm, Below.trans (by repeat (first | exact Below.refl _ _ | refine Below.alloc ?_ (by simp; try omega) _ | refine Below.setCell ?_ (by simp; try omega) _)) (hb1.mono (by simp))⟩
  | true =>
    have HR : Hid (codeOf s ts [] = 0) := codeOf_ok hv (fun k hk => absurd hk (by simp))
    go_enter Try.func51, Try.ntmps51
    go_wp2_with fail
    refine (implValidNet_any s a ts n ca _ hn (HA.out _ (by repeat (first | exact Below.refl _ _ | refine Below.alloc ?_ (by simp; try omega) _ | refine Below.setCell ?_ (by simp; try omega) _))) hmax).mono ?_
    rintro e w1 ⟨rfl, hb1⟩
    have B1 := Lib.hid (Below.trans (show Below w.heap.size w (w.alloc (.cells #[.int .i64 s, .slice a n ca] 26)) from (by repeat (first | exact Below.refl _ _ | refine Below.alloc ?_ (by simp; try omega) _ | refine Below.setCell ?_ (by simp; try omega) _))) (hb1.mono (by simp)))
    clear hb1
    go_wp2
    go_loop [12] (fun i => i = .int .i64 0) (fun _ => 0)
    case atStart => rfl
    case round =>
      subst hrel
      go_wp2
      go_ret
      exact ⟨ret_int HR.out.symm, B1.out⟩

theorem checkStationsAll_any (s : Int) (a d : Option Addr) (ts : List T3) (ns : List Int) (n ca k cd : Nat) (w : World) (hn : Hid (ts.length = n)) (ha : RT w a ts) (hmax : n ≤ 1048576)
    (hk : Hid (ns.length = k)) (hd : RI w d ns) (hk1 : k ≤ 1048576) :
    Calls Try.prog 51 #[.agg #[.int .i64 s, .slice a n ca], .slice d k cd] w fun e w' => e = .returned (.int .i64 (codeOf s ts ns)) ∧ Below w.heap.size w w' := by
  by_cases h0 : k = 0
  · subst h0
    have : ns = [] := List.eq_nil_of_length_eq_zero hk.out
    subst this
    exact checkStations0_any s a d ts n ca cd w hn ha hmax
  · exact checkStations_any s a d ts ns n ca k cd w hn ha hmax hk hd (by omega) hk1

theorem checkSetting_any (s : Int) (a b d : Option Addr) (ts : List T3) (set ns : List Int) (n ca m cb k cd : Nat) (w : World) (hn : Hid (ts.length = n)) (ha : RT w a ts) (hmax : n ≤ 1048576)
    (hm : Hid (set.length = m)) (hb : RI w b set) (hm1 : m ≤ 1048576) (hk : Hid (ns.length = k)) (hd : RI w d ns) (hk1 : k ≤ 1048576) :
    Calls Try.prog 45 #[.agg #[.int .i64 s, .slice a n ca], .slice b m cb, .slice d k cd] w fun e w' => e = .returned (.int .i64 (setCode s ts set ns)) ∧ Below w.heap.size w w' := by
  have HA : Hid (∀ w', Below w.heap.size w w' → RT w' a ts) := fun w' h => ha.below h
  have HB : Hid (∀ w', Below w.heap.size w w' → RI w' b set) := fun w' h => hb.below h
  have HD : Hid (∀ w', Below w.heap.size w w' → RI w' d ns) := fun w' h => hd.below h
  clear ha hb hd
  cases hv : setB s ts set with
  | false =>
    have HR := Lib.hid (setCode_inv (ns := ns) hv)
    go_enter Try.func45, Try.ntmps45
    go_wp2_with fail
    refine (implValidSetting_any s a b ts set n ca m cb _ hn (HA.out _ (by repeat (first | exact Below.refl _ _ | refine Below.alloc ?_ (by simp; try omega) _ | refine Below.setCell ?_ (by simp; try omega) _))) hmax hm (HB.out _ (by repeat (first | exact Below.refl _ _ | refine Below.alloc ?_ (by simp; try omega) _ | refine Below.setCell ?_ (by simp; try omega) _))) hm1).mono ?_
    rintro e w1 ⟨rfl, hb1⟩
    have B1 := Lib.hid (Below.trans (show Below w.heap.size w (w.alloc (.cells #[.int .i64 s, .slice a n ca] 26)) from (by repeat (first | exact Below.refl _ _ | refine Below.alloc ?_ (by simp; try omega) _ | refine Below.setCell ?_ (by simp; try omega) _))) (hb1.mono (by simp)))
    clear hb1
    rw [hv]
    go_wp2
    go_ret
    exact ⟨ret_int HR.out.symm, B1.out⟩
  | true =>
    have HR := Lib.hid (setCode_of (ns := ns) hv)
    go_enter Try.func45, Try.ntmps45
    go_wp2_with fail
    refine (implValidSetting_any s a b ts set n ca m cb _ hn (HA.out _ (by repeat (first | exact Below.refl _ _ | refine Below.alloc ?_ (by simp; try omega) _ | refine Below.setCell ?_ (by simp; try omega) _))) hmax hm (HB.out _ (by repeat (first | exact Below.refl _ _ | refine Below.alloc ?_ (by simp; try omega) _ | refine Below.setCell ?_ (by simp; try omega) _))) hm1).mono ?_
    rintro e w1 ⟨rfl, hb1⟩
    have q0 := (hb1.cell (p := ⟨w.heap.size, 0, none⟩) (by simp)).trans (by simp [go_sem] : _ = some (.int .i64 s))
    have q1 := (hb1.cell (p := ⟨w.heap.size, 1, none⟩) (by simp)).trans (by simp [go_sem] : _ = some (.slice a n ca))
    have B1 := Lib.hid (Below.trans (show Below w.heap.size w (w.alloc (.cells #[.int .i64 s, .slice a n ca] 26)) from (by repeat (first | exact Below.refl _ _ | refine Below.alloc ?_ (by simp; try omega) _ | refine Below.setCell ?_ (by simp; try omega) _))) (hb1.mono (by simp)))
    clear hb1
    rw [hv]
    go_wp2_with fail
    refine (checkStationsAll_any s a d ts ns n ca k cd _ hn (HA.out _ B1.out) hmax hk (HD.out _ B1.out) hk1).mono ?_
    rintro e w2 ⟨rfl, hb2⟩
    have B2 := Lib.hid (two_worldsC B1.out hb2)
    clear hb2
    go_wp2
    go_ret
    exact ⟨ret_int HR.out.symm, B2.out⟩

/-- What EndOf returns: the station, and the code. -/
def endOf (s : Int) (ts : List T3) (set : List Int) (x : Int) : Int × Int :=
  if setCode s ts set [x] = 0 then (match runF ts set (-1) s.toNat x with
    | some p => (p.2, 0)
    | none => (0, 9)) else (0, setCode s ts set [x])
theorem ret_ints {p : Int × Int} {y z : Int} (h : p = (y, z)) : Ending.returned (.tuple #[.int .i64 y, .int .i64 z]) = .returned (.tuple #[.int .i64 p.1, .int .i64 p.2]) := by rw [h]
theorem setCode_twice (s : Int) (ts : List T3) (set : List Int) (x : Int) : setCode s ts set [x, x] = setCode s ts set [x] := by unfold setCode; rw [codeOf_twice]
theorem run_end {s : Int} {ts : List T3} {set : List Int} (hset : setB s ts set = true) (to : Int) (f : Nat) (x : Int) (hx : stB s x = true) {p : List Int × Int} (h : runF ts set to f x = some p) : stB s p.2 = true := by
  induction f generalizing x p with
  | zero => exact absurd h (by simp [runF])
  | succ f ih =>
    unfold runF at h
    by_cases hf : finAt set to x
    · rw [if_pos hf] at h
      injection h with h; subst h; exact hx
    · rw [if_neg hf] at h
      obtain ⟨k, _, hk, e, o⟩ := setB_at hset hx
      rcases o with o | ⟨j, t, o1, o2, _, o4⟩
      · exact absurd (.inr (e.trans o)) hf
      · cases hr : runF ts set to f (nextAt ts set x) with
        | none => rw [hr] at h; exact absurd h (by simp)
        | some r =>
          rw [hr] at h
          injection h with h; subst h
          have hnx : stB s (nextAt ts set x) = true := by rw [nextAt_of (e.trans o1) o2]; exact o4
          have := ih _ hnx hr
          exact this

set_option maxHeartbeats 1000000 in
theorem implEndOf_any (s x : Int) (a b : Option Addr) (ts : List T3) (set : List Int) (n ca m cb : Nat) (w : World) (hn : Hid (ts.length = n)) (ha : RT w a ts) (hmax : n ≤ 1048576) (hm : Hid (set.length = m)) (hb : RI w b set) (hm1 : m ≤ 1048576) :
    Calls Try.prog 19 #[.agg #[.int .i64 s, .slice a n ca], .slice b m cb, .int .i64 x] w fun e w' => e = .returned (.tuple #[.int .i64 (endOf s ts set x).1, .int .i64 (endOf s ts set x).2]) ∧ Below w.heap.size w w' := by
  have HA : Hid (∀ w', Below w.heap.size w w' → RT w' a ts) := fun w' h => ha.below h
  have HB : Hid (∀ w', Below w.heap.size w w' → RI w' b set) := fun w' h => hb.below h
  clear ha hb
  have HXY : RI ((w.alloc (.cells #[.int .i64 s, .slice a n ca] 26)).alloc (.cells #[.int .i64 x] 2)) (some ⟨w.heap.size + 1, 0, none⟩) [x] := by
    refine .inr ⟨w.heap.size + 1, 0, rfl, ?_⟩
    rintro (_ | k) hk
    · simp [go_sem]
    · exact absurd hk (by simp)
  go_enter Try.func19, Try.ntmps19
  go_wp2_with fail
  refine (checkSetting_any s a b _ ts set [x] n ca m cb 1 _ _ hn (HA.out _ (by repeat (first | exact Below.refl _ _ | refine Below.alloc ?_ (by simp; try omega) _ | refine Below.setCell ?_ (by simp; try omega) _))) hmax hm (HB.out _ (by repeat (first | exact Below.refl _ _ | refine Below.alloc ?_ (by simp; try omega) _ | refine Below.setCell ?_ (by simp; try omega) _))) hm1 rfl HXY (by omega)).mono ?_
  rintro e w1 ⟨rfl, hb1⟩
  have q0 := (hb1.cell (p := ⟨w.heap.size, 0, none⟩) (by simp; omega)).trans (by simp [go_sem] : _ = some (.int .i64 s))
  have q1 := (hb1.cell (p := ⟨w.heap.size, 1, none⟩) (by simp; omega)).trans (by simp [go_sem] : _ = some (.slice a n ca))
  have B1 := Lib.hid (Below.trans (show Below w.heap.size w ((w.alloc (.cells #[.int .i64 s, .slice a n ca] 26)).alloc (.cells #[.int .i64 x] 2)) from (by repeat (first | exact Below.refl _ _ | refine Below.alloc ?_ (by simp; try omega) _ | refine Below.setCell ?_ (by simp; try omega) _))) (hb1.mono (by simp; omega)))
  clear hb1 HXY
  rcases eq_ways (setCode s ts set [x]) 0 with ⟨⟨e1, e2⟩, e3⟩ | ⟨⟨e1, e2⟩, e3⟩
  · obtain ⟨hset, hst⟩ := setCode_ok e3
    have hx := hst x (by simp)
    have HX := Lib.hid hx
    have HS := Lib.hid hset
    have E3 := Lib.hid e3
    rw [e3]
    clear hset hst hx e1 e2 e3
    go_wp2_with fail
    refine (endOf_any s x a b ts set n ca m cb _ hn (HA.out _ B1.out) hm (HB.out _ B1.out) HS.out HX.out).mono ?_
    rintro e w2 ⟨rfl, hb2⟩
    have B2 := Lib.hid (two_worldsC B1.out hb2)
    clear hb2 q0 q1
    cases hrun : runF ts set (-1) s.toNat x with
    | none =>
      have HR : Hid (endOf s ts set x = (0, 9)) := by unfold Hid endOf; rw [if_pos E3.out, hrun]
      have HE : endRes s ts set x = (0, false) := by unfold endRes; rw [hrun]
      rw [HE]
      clear hrun HE
      go_wp2
      go_ret2
      exact ⟨ret_ints HR.out, B2.out⟩
    | some p =>
      obtain ⟨l, y⟩ := p
      have HR : Hid (endOf s ts set x = (y, 0)) := by unfold Hid endOf; rw [if_pos E3.out, hrun]
      have HE : endRes s ts set x = (y, true) := by unfold endRes; rw [hrun]
      rw [HE]
      clear hrun HE
      go_wp2
      go_ret2
      exact ⟨ret_ints HR.out, B2.out⟩
  · have HR : Hid (endOf s ts set x = (0, setCode s ts set [x])) := by unfold Hid endOf; rw [if_neg e3]
    clear e3
    generalize setCode s ts set [x] = c at HR e1 e2
    go_wp2
    go_ret2
    exact ⟨ret_ints HR.out, B1.out⟩
end Go.Proofs.Ytenjigifjkfiaaa
