/-
  IsStrong: what it returns; both walks.
-/
import Derived.Test.YtbndminegokffaaStrong
namespace Go.Proofs.Ytbndminegokffaa
open Go.RowKit

def strongOf (s : Int) (ts : List T3) : Bool × Int := if netB s ts = true then (strongB ts (-1) s.toNat, 0) else (false, 1)
theorem strongOf_bad {s : Int} {ts : List T3} (h : netB s ts = false) : strongOf s ts = (false, 1) := by unfold strongOf; rw [h]; rfl
theorem strongOf_good {S : Nat} {ts : List T3} (h : netB (S : Int) ts = true) : strongOf (S : Int) ts = (strongB ts (-1) S, 0) := by unfold strongOf; rw [if_pos h]; rfl
theorem net_nat {s : Int} {ts : List T3} (h : netB s ts = true) : ∃ S : Nat, s = (S : Int) := ⟨s.toNat, by have := (netB_parts h).1; omega⟩
set_option maxHeartbeats 2000000 in
theorem specIsStrong_any (s : Int) (a : Option Addr) (ts : List T3) (n ca : Nat) (w : World) (hn : Hid (ts.length = n)) (ha : RT w a ts) (hmax : n ≤ 1048576) :
    Calls Try.prog 7 #[.agg #[.int .i64 s, .slice a n ca]] w fun e w' => e = .returned (.tuple #[.bool (strongOf s ts).1, .int .i64 (strongOf s ts).2]) ∧ Below w.heap.size w w' := by
  have HA : Hid (∀ w', Below w.heap.size w w' → RT w' a ts) := fun w' h => ha.below h
  clear ha
  have OK := l02Ok_any w.heap.size s a ts n ca (w.alloc (.cells #[.int .i64 s, .slice a n ca] 26)) hn (HA.out _ (by repeat (first | exact Below.refl _ _ | refine Below.alloc ?_ (by simp; try omega) _ | refine Below.setCell ?_ (by simp; try omega) _))) hmax (by simp [go_sem]) (by simp [go_sem])
  cases hv : netB s ts with
  | false =>
    rw [hv] at OK
    have HR := Lib.hid (strongOf_bad hv)
    clear hv
    go_enter Try.func7, Try.ntmps7
    go_wp2_with (go_at_call 18; refine OK.mono ?_; rintro e w1 ⟨rfl, hb1⟩)
    go_ret2
    rw [HR.out]
    exact ⟨rfl, Below.trans (show Below w.heap.size w (w.alloc (.cells #[.int .i64 s, .slice a n ca] 26)) from (by repeat (first | exact Below.refl _ _ | refine Below.alloc ?_ (by simp; try omega) _ | refine Below.setCell ?_ (by simp; try omega) _))) (hb1.mono (by simp))⟩
  | true =>
    obtain ⟨S, rfl⟩ := net_nat hv
    rw [hv] at OK
    have HR := Lib.hid (strongOf_good hv)
    have ST : Hid (∀ W, Below (w.alloc (.cells #[.int .i64 (S : Int), .slice a n ca] 26)).heap.size (w.alloc (.cells #[.int .i64 (S : Int), .slice a n ca] 26)) W → Calls Try.prog 19 #[.pointer (some ⟨w.heap.size, 0, none⟩), .int .i64 (-1)] W fun e w' => e = .returned (.bool (strongB ts (-1) S)) ∧ Below W.heap.size W w') := fun W hW =>
      l02Strong_any w.heap.size S a ts n ca (-1) W hn (HA.out _ (Below.trans (show Below w.heap.size w (w.alloc (.cells #[.int .i64 (S : Int), .slice a n ca] 26)) from (by repeat (first | exact Below.refl _ _ | refine Below.alloc ?_ (by simp; try omega) _ | refine Below.setCell ?_ (by simp; try omega) _))) (hW.mono (by simp)))) hv ((hW.cell (p := ⟨w.heap.size, 0, none⟩) (by simp)).trans (by simp [go_sem])) ((hW.cell (p := ⟨w.heap.size, 1, none⟩) (by simp)).trans (by simp [go_sem]))
    clear hv
    go_enter Try.func7, Try.ntmps7
    go_wp2_with (first | (go_at_call 18; refine OK.mono ?_; rintro e w1 ⟨rfl, hb1⟩) | (go_at_call 19; refine (ST.out _ hb1).mono ?_; rintro e w2 ⟨rfl, hb2⟩))
    go_ret2
    rw [HR.out]
    exact ⟨rfl, Below.trans (show Below w.heap.size w (w.alloc (.cells #[.int .i64 (S : Int), .slice a n ca] 26)) from (by repeat (first | exact Below.refl _ _ | refine Below.alloc ?_ (by simp; try omega) _ | refine Below.setCell ?_ (by simp; try omega) _))) ((two_worlds hb1 hb2).mono (by simp))⟩
set_option maxHeartbeats 2000000 in
theorem implIsStrong_any (s : Int) (a : Option Addr) (ts : List T3) (n ca : Nat) (w : World) (hn : Hid (ts.length = n)) (ha : RT w a ts) (hmax : n ≤ 1048576) :
    Calls Try.prog 9 #[.agg #[.int .i64 s, .slice a n ca]] w fun e w' => e = .returned (.tuple #[.bool (strongOf s ts).1, .int .i64 (strongOf s ts).2]) ∧ Below w.heap.size w w' := by
  have HA : Hid (∀ w', Below w.heap.size w w' → RT w' a ts) := fun w' h => ha.below h
  clear ha
  have OK : Hid (∀ W, Below w.heap.size w W → Calls Try.prog 15 #[.agg #[.int .i64 s, .slice a n ca]] W fun e w' => e = .returned (.bool (netB s ts)) ∧ Below W.heap.size W w') := fun W h => implValidNet_any s a ts n ca W hn (HA.out W h) hmax
  cases hv : netB s ts with
  | false =>
    rw [hv] at OK
    have HR := Lib.hid (strongOf_bad hv)
    clear hv
    go_enter Try.func9, Try.ntmps9
    go_wp2_with (go_at_call 15; refine (OK.out _ (by repeat (first | exact Below.refl _ _ | refine Below.alloc ?_ (by simp; try omega) _ | refine Below.setCell ?_ (by simp; try omega) _))).mono ?_; rintro e w1 ⟨rfl, hb1⟩)
    go_ret2
    rw [HR.out]
    exact ⟨rfl, two_worldsC (by repeat (first | exact Below.refl _ _ | refine Below.alloc ?_ (by simp; try omega) _ | refine Below.setCell ?_ (by simp; try omega) _)) hb1⟩
  | true =>
    obtain ⟨S, rfl⟩ := net_nat hv
    rw [hv] at OK
    have HR := Lib.hid (strongOf_good hv)
    have ST : Hid (∀ W, Below w.heap.size w W → Calls Try.prog 16 #[.agg #[.int .i64 (S : Int), .slice a n ca]] W fun e w' => e = .returned (.bool (strongB ts (-1) S)) ∧ Below W.heap.size W w') := fun W hW => isStrong_any S a ts n ca W hn (HA.out W hW) hv
    clear hv
    go_enter Try.func9, Try.ntmps9
    go_wp2_with (first | (go_at_call 15; refine (OK.out _ (by repeat (first | exact Below.refl _ _ | refine Below.alloc ?_ (by simp; try omega) _ | refine Below.setCell ?_ (by simp; try omega) _))).mono ?_; rintro e w1 ⟨rfl, hb1⟩; have r0 := (hb1.cell (p := ⟨w.heap.size, 0, none⟩) (by simp)).trans (by simp [go_sem] : _ = some (.int .i64 (S : Int))); have r1 := (hb1.cell (p := ⟨w.heap.size, 1, none⟩) (by simp)).trans (by simp [go_sem] : _ = some (.slice a n ca)); have hbw : Below w.heap.size w w1 := Below.trans (show Below w.heap.size w (w.alloc (.cells #[.int .i64 (S : Int), .slice a n ca] 26)) from (by repeat (first | exact Below.refl _ _ | refine Below.alloc ?_ (by simp; try omega) _ | refine Below.setCell ?_ (by simp; try omega) _))) (hb1.mono (by simp))) | (go_at_call 16; refine (ST.out _ hbw).mono ?_; rintro e w2 ⟨rfl, hb2⟩))
    go_ret2
    rw [HR.out]
    exact ⟨rfl, two_worlds hbw hb2⟩
end Go.Proofs.Ytbndminegokffaa
