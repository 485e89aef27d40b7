/-
  The walk of tubesByFrom.
-/
import Derived.Test.YtbndminegokffaaTubesBy
namespace Go.Proofs.Ytbndminegokffaa
open Go.RowKit Go.Maps

theorem tubesByFrom_any (s : Int) (a : Option Addr) (ts : List T3) (n ca : Nat) (w : World) (hn : Hid (ts.length = n)) (ha : RT w a ts) (hnet : netB s ts = true) :
    Calls Try.prog 32 #[.agg #[.int .i64 s, .slice a n ca]] w fun e w' => ∃ b, e = .returned (.map (some b)) ∧ Groups w' b ts n ∧ Below w.heap.size w w' ∧ w.heap.size ≤ b := by
  have HA : Hid (∀ w', Below w.heap.size w w' → RT w' a ts) := fun w' h => ha.below h
  have HN := Lib.hid hnet
  clear ha hnet
  go_enter Try.func32, Try.ntmps32
  go_wp2_with fail
  refine (tubesBy_any s a ts n ca (w.alloc (.cells #[.int .i64 s, .slice a n ca] 26)) hn (HA.out _ (by (repeat (first | exact Below.refl _ _ | refine Below.drew ?_ | refine Below.drewN' ?_ _ | refine Below.alloc ?_ (by first | (simp; done) | (simp; omega)) _ | refine Below.setCell ?_ (by first | (simp; done) | (simp; omega)) _)); done)) HN.out).mono ?_
  rintro e w1 ⟨rfl, hg, hb1⟩
  have B1 := Lib.hid (Below.trans (show Below w.heap.size w (w.alloc (.cells #[.int .i64 s, .slice a n ca] 26)) from (by repeat (first | exact Below.refl _ _ | refine Below.alloc ?_ (by simp; try omega) _ | refine Below.setCell ?_ (by simp; try omega) _))) (hb1.mono (by simp)))
  have NS : (w.alloc (.cells #[.int .i64 s, .slice a n ca] 26)).heap.size = w.heap.size + 1 := by simp
  rw [NS] at hg
  have HG := Lib.hid hg
  clear hb1 hg NS
  go_wp2
  go_ret
  exact ⟨_, rfl, HG.out, B1.out, by omega⟩

theorem own_slice {w : World} {base : Nat} {e : TypeId} {v : Value} {zs : List Int} (h : w.ownsInts base e .i64 v zs) : ∃ a c, v = .slice a zs.length c := by
  rcases h.1.2 with ⟨hv, h0⟩ | ⟨g, cap, _, hv, _⟩
  · exact ⟨none, 0, by rw [hv, h0]⟩
  · exact ⟨_, _, hv⟩
end Go.Proofs.Ytbndminegokffaa
