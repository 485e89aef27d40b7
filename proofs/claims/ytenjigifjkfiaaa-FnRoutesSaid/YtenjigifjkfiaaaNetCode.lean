/-
  The walks of the checks on stations and tubes: l02Code, checkStations, isTube, l02Tubes.
-/
import Derived.Test.YtenjigifjkfiaaaNetValid
import Derived.Test.YtenjigifjkfiaaaIntList
import Derived.Deep.RegionHeld3
import Derived.IntWalk
import Derived.Test.YtenjigifjkfiaaaMem
namespace Go.Proofs.Ytenjigifjkfiaaa
open Go.RowKit

/-- The code of a network and stations: 1 (invalid), 2 (range), 0 (OK). -/
def codeOf (s : Int) (ts : List T3) (ns : List Int) : Int := if netB s ts = true then (if ns.all (stB s) = true then 0 else 2) else 1
theorem codeOf_inv {s : Int} {ts : List T3} {ns : List Int} (h : netB s ts = false) : codeOf s ts ns = 1 := by unfold codeOf; rw [h]; rfl
theorem codeOf_bad {s : Int} {ts : List T3} {ns : List Int} (h : netB s ts = true) (k : Nat) (hk : k < ns.length) (h2 : stB s ns[k] = false) : codeOf s ts ns = 2 := by
  unfold codeOf
  have : ns.all (stB s) = false := by
    rw [List.all_eq_false]
    exact ⟨ns[k], List.getElem_mem hk, by simp [h2]⟩
  rw [h, this]; rfl
theorem codeOf_ok {s : Int} {ts : List T3} {ns : List Int} (h : netB s ts = true) (h2 : ∀ k (hk : k < ns.length), stB s ns[k] = true) : codeOf s ts ns = 0 := by
  unfold codeOf
  have : ns.all (stB s) = true := by
    rw [List.all_eq_true]
    intro c hc
    obtain ⟨k, hk, rfl⟩ := List.getElem_of_mem hc
    exact h2 k hk
  rw [h, this]; rfl
theorem codeOf_ok_parts {s : Int} {ts : List T3} {ns : List Int} (h : codeOf s ts ns = 0) : netB s ts = true ∧ ∀ x ∈ ns, stB s x = true := by
  unfold codeOf at h
  split at h
  · rename_i hb
    split at h
    · rename_i hc
      exact ⟨hb, by simpa [List.all_eq_true] using hc⟩
    · omega
  · omega
theorem inB_stB (s x : Int) : inB x 0 (s - 1) = stB s x := by unfold inB stB; rw [Bool.eq_iff_iff]; simp; omega

set_option maxHeartbeats 1000000 in
theorem checkStations_any (s : Int) (a b : Option Addr) (ts : List T3) (ns : List Int) (n ca m cb : Nat) (w : World) (hn : Hid (ts.length = n)) (ha : RT w a ts) (hmax : n ≤ 1048576)
    (hm : Hid (ns.length = m)) (hb : RI w b ns) (hm0 : 0 < m) (hm1 : m ≤ 1048576) :
    Calls Try.prog 51 #[.agg #[.int .i64 s, .slice a n ca], .slice b m cb] w fun e w' => e = .returned (.int .i64 (codeOf s ts ns)) ∧ Below w.heap.size w w' := by
  have HA : Hid (∀ w', Below w.heap.size w w' → RT w' a ts) := fun w' h => ha.below h
  clear ha
  cases hv : netB s ts with
  | false =>
    have HR := Lib.hid (codeOf_inv (ns := ns) hv)
    go_enter Try.func51, Try.ntmps51
    go_wp2_with fail
    refine (implValidNet_any s a ts n ca _ hn (HA.out _ (by repeat (first | exact Below.refl _ _ | refine Below.alloc ?_ (by simp; try omega) _ | refine Below.setCell ?_ (by simp; try omega) _))) hmax).mono ?_
    rintro e w1 ⟨rfl, hb1⟩
    go_wp2
    go_ret
    exact ⟨ret_int HR.out.symm, Below.trans (by repeat (first | exact Below.refl _ _ | refine Below.alloc ?_ (by simp; try omega) _ | refine Below.setCell ?_ (by simp; try omega) _)) (hb1.mono (by simp))⟩
  | true =>
    obtain ⟨bb, ob, rfl, hbb, hcb⟩ := hb.addr (by rw [hm.out]; exact hm0)
    have HC := Lib.hid hcb
    clear hcb hb
    go_enter Try.func51, Try.ntmps51
    go_wp2_with fail
    refine (implValidNet_any s a ts n ca _ hn (HA.out _ (by repeat (first | exact Below.refl _ _ | refine Below.alloc ?_ (by simp; try omega) _ | refine Below.setCell ?_ (by simp; try omega) _))) hmax).mono ?_
    rintro e w1 ⟨rfl, hb1⟩
    have P1 : Hid (w1.cell? ⟨w.heap.size, 0, none⟩ = some (.int .i64 s) ∧ w1.cell? ⟨w.heap.size, 1, none⟩ = some (.slice a n ca)) := ⟨(hb1.cell (p := ⟨w.heap.size, 0, none⟩) (by simp)).trans (by simp [go_sem]), (hb1.cell (p := ⟨w.heap.size, 1, none⟩) (by simp)).trans (by simp [go_sem])⟩
    have B1 := Lib.hid (Below.trans (show Below w.heap.size w (w.alloc (.cells #[.int .i64 s, .slice a n ca] 26)) from (by repeat (first | exact Below.refl _ _ | refine Below.alloc ?_ (by simp; try omega) _ | refine Below.setCell ?_ (by simp; try omega) _))) (hb1.mono (by simp)))
    have hw1 := hb1.size
    simp at hw1
    clear hb1
    go_wp2
    go_loopw [12] (fun i wr => ∃ k : Nat, k ≤ m ∧ i = .int .i64 k ∧ Below w1.heap.size w1 wr ∧ ∀ j (h : j < ns.length), j < k → stB s ns[j] = true) (fun i _ => m - (intOf i).toNat)
    case atStart => exact ⟨0, by omega, rfl, Below.refl _ _, fun j _ hj => by omega⟩
    case round =>
      obtain ⟨k, hk, rfl, hbel, hall⟩ := hrel
      have HALL := Lib.hid hall
      clear hall
      by_cases hlt : k < m
      · have hka : k < ns.length := by rw [hm.out]; exact hlt
        have x1 := HC.out k hka
        have hbad := fun h => Lib.hid (codeOf_bad (ts := ts) (ns := ns) hv k hka h)
        have HSM : Hid (stB s ns[k] = true → ∀ j (h : j < ns.length), j < k + 1 → stB s ns[j] = true) := fun ht j h hj => if e : j = k then (by subst e; exact ht) else HALL.out j h (by omega)
        generalize ns[k] = x at x1 hbad HSM
        rw [← B1.out.cell (p := ⟨_, _, none⟩) hbb, ← hbel.cell (p := ⟨bb, _, none⟩) (by have := B1.out.size; simp only; omega)] at x1
        have p0 := (hbel.cell (p := ⟨w.heap.size, 0, none⟩) (by simp; omega)).trans P1.out.1
        have p1 := (hbel.cell (p := ⟨w.heap.size, 1, none⟩) (by simp; omega)).trans P1.out.2
        have hk0 : (0 : Int) ≤ (k : Int) := by omega
        have hk1 : (k : Int) < (m : Int) := by omega
        have HBEL := Lib.hid hbel
        clear hbel
        cases hx : stB s x with
        | true =>
          have HSM2 := Lib.hid (HSM.out hx)
          clear hbad
          go_wp2_with (go_at_call 76; refine (isStation_any _ _ _ _ _ _).mono ?_; rintro e w' ⟨rfl, rfl⟩)
          go_roundw
          case rel => exact ⟨k + 1, by omega, by go_num, HBEL.out.alloc HBEL.out.size _, HSM2.out⟩
          case measure => simp [intOf]; omega
        | false =>
          have HR := hbad hx
          clear hbad
          go_wp2_with (go_at_call 76; refine (isStation_any _ _ _ _ _ _).mono ?_; rintro e w' ⟨rfl, rfl⟩)
          go_ret
          exact ⟨ret_int HR.out.symm, two_worldsC B1.out (HBEL.out.alloc HBEL.out.size _)⟩
      · have HR : Hid (codeOf s ts ns = 0) := codeOf_ok hv (fun j hj => HALL.out j hj (by rw [hm.out] at hj; omega))
        go_wp2
        go_ret
        exact ⟨ret_int HR.out.symm, two_worldsC B1.out hbel⟩

theorem isTube_any (s k : Int) (a : Option Addr) (n c : Nat) (w : World) : Calls Try.prog 52 #[.agg #[.int .i64 s, .slice a n c], .int .i64 k] w fun e w' => e = .returned (.bool (stB n k)) ∧ w.alloc (.cells #[.int .i64 s, .slice a n c] 26) = w' := by
  by_cases h1 : 0 ≤ k <;> by_cases h2 : k < n
  all_goals
    go_enter Try.func52, Try.ntmps52
    go_wp2
    go_ret
    exact ⟨ret_bool (by simp [stB, *]), rfl⟩

def tubesB (n : Nat) (way : List Int) : Bool := way.all (stB n)
theorem tubesB_bad {n : Nat} {way : List Int} (k : Nat) (hk : k < way.length) (h : stB n way[k] = false) : tubesB n way = false := by
  unfold tubesB
  rw [List.all_eq_false]
  exact ⟨way[k], List.getElem_mem hk, by simp [h]⟩
theorem tubesB_good {n : Nat} {way : List Int} (h : ∀ k (hk : k < way.length), stB n way[k] = true) : tubesB n way = true := by
  unfold tubesB
  rw [List.all_eq_true]
  intro c hc
  obtain ⟨k, hk, rfl⟩ := List.getElem_of_mem hc
  exact h k hk

theorem stB_wrap (n : Nat) (x : Int) (h : n ≤ 1048576) : inB x 0 (IntKind.i64.wrap ((n : Int) - 1)) = stB n x := by rw [IntWalk.i64_in _ (by omega)]; exact inB_stB n x
end Go.Proofs.Ytenjigifjkfiaaa
