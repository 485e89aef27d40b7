/-
  a2At: a number out of a byte.
-/
import Derived.Test.YtbndminegokffaaCodeArg
import Derived.Deep.QuietTactic
namespace Go.Proofs.Ytbndminegokffaa
open Go.RowKit

theorem tmod200 {x : Int} (h0 : 0 ≤ x) : 0 ≤ Int.tmod x 200 ∧ Int.tmod x 200 ≤ 199 := by
  rw [Int.tmod_eq_emod_of_nonneg h0]
  omega
theorem a2At_any (a : Option Addr) (n c : Nat) (w : World) (hc : CodeIn w.heap.size a n w) (hn : n ≤ 3000) :
    Calls Try.prog 11 #[.slice a n c, .int .i64 0, .int .i64 200] w fun e w' => (∃ v : Int, 0 ≤ v ∧ v ≤ 199 ∧ e = .returned (.int .i64 v)) ∧ Below w.heap.size w w' := by
  by_cases h0 : n = 0
  · subst h0
    go_enter Try.func11, Try.ntmps11
    go_wp2
    go_ret
    exact ⟨⟨0, by omega, by omega, rfl⟩, (by repeat (first | exact Below.refl _ _ | refine Below.alloc ?_ (by simp; try omega) _ | refine Below.setCell ?_ (by simp; try omega) _))⟩
  · obtain ⟨b, off, rfl, hb, hx⟩ := hc.resolve_left h0
    obtain ⟨x, x0, x1, hcell⟩ := hx 0 (by omega)
    rw [Nat.add_zero] at hcell
    have hn0 : 0 < n := by omega
    have hn1 : (0 : Int) < (n : Int) := by omega
    have hn2 : ¬ (n : Int) ≤ 0 := by omega
    obtain ⟨t0, t1⟩ := tmod200 x0
    have hw1 : IntKind.i64.wrap x = x := IntWalk.i64_in _ (by omega)
    have hw2 : IntKind.i64.wrap (Int.tmod x 200) = Int.tmod x 200 := IntWalk.i64_in _ (by omega)
    generalize ht : Int.tmod x 200 = t at t0 t1 hw2
    clear hx
    go_enter Try.func11, Try.ntmps11
    go_wp2
    go_ret
    exact ⟨⟨t, t0, t1, by simp⟩, (by repeat (first | exact Below.refl _ _ | refine Below.alloc ?_ (by simp; try omega) _ | refine Below.setCell ?_ (by simp; try omega) _))⟩
end Go.Proofs.Ytbndminegokffaa
