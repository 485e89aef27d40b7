/-
  The walk of the law FnExactCodeName: it returns true at every number, where the table of the codes' names holds what the program's text lays.
-/
import Derived.Test.YtemeaeafdhgfaaaDoorRows
import Derived.WalkKit
import Derived.ProofKit
import Derived.OpenShut
import Derived.Lib.Hide
import Derived.Outline
import Derived.LaidMore
import Derived.LaidLaws
namespace Go.Proofs.YtemeaeafdhgfaaaDoor.fnExactCodeName
open Go.ChangeShapes Go.WideShapes Go.RowKit
theorem gTab : Tryd.prog.globalNamed "loop.example/g01046/impl.codeNames" = some 0 := by kernel_rfl
theorem gTabType : (Tryd.prog.globals[0]?).map (·.type) = some 56 := by kernel_rfl
theorem cellsArr : Tryd.prog.cellsOf 56 = 11 := by kernel_rfl
theorem cellsStr : Tryd.prog.cellsOf 9 = 1 := by kernel_rfl

def names : List (List UInt8) := [[111, 107], [105, 110, 118, 97, 108, 105, 100], [114, 97, 110, 103, 101], [110, 111, 116, 45, 102, 111, 117, 110, 100], [101, 120, 105, 115, 116, 115], [102, 117, 108, 108], [115, 116, 97, 116, 101], [115, 121, 110, 116, 97, 120], [102, 111, 114, 109, 97, 116], [99, 108, 97, 115, 104], [115, 116, 117, 99, 107]]
theorem table {W : World} (h : laidMetH Tryd.prog Rows.fnExactCodeNameRow.laid W) : ∀ i, i < 11 → W.cell? ⟨0, i, none⟩ = some (.string ⟨(names.getD i []).toArray⟩) := by
  rw [MakeChecks.laidMetH_plain _ _ _ (by kernel_rfl)] at h
  obtain ⟨ps, ⟨g0, t0, cs0, f0, p0, q0, hg0, ht0, hv0, hd0, _, _⟩, _, _⟩ := h
  obtain rfl := Option.some.inj (gTab.symm.trans hg0)
  obtain rfl := Option.some.inj (gTabType.symm.trans ht0)
  obtain ⟨xs, m1, rfl, hx1, hlen, hn3, hel⟩ := DataW.trod_array Tryd.underlying56 hd0
  rw [cellsArr] at hlen
  rw [cellsStr] at hel
  intro i hi
  have hc := World.var?_cell hg0 hv0 i
  have he := hel i hi
  have hxi : xs[i]? = some (xs[i]'(by omega)) := List.getElem?_eq_getElem _
  rw [hxi] at he
  obtain ⟨s, e1, e2, _⟩ := DataW.trod_string Tryd.underlying9 he
  simp only [Prod.mk.injEq] at hx1
  have hx2 : names.map (fun l => (DataW.lit (.string l) : DataW Unit)) = xs.map (·.1) := DataW.agg.inj (show DataW.agg (names.map (fun l => (DataW.lit (.string l) : DataW Unit))) = _ from hx1.1)
  have hn : (DataW.lit (.string (names.getD i [])) : DataW Unit) = (xs[i]'(by omega)).1 := by
    have := congrArg (fun l => l[i]?) hx2
    simp only [List.getElem?_map, hxi, Option.map_some] at this
    rw [List.getD_eq_getElem?_getD]
    have hi' : i < names.length := hi
    rw [List.getElem?_eq_getElem hi'] at this ⊢
    simpa using this
  rw [e2] at hn
  simp only [DataW.lit.injEq, Lit.string.injEq] at hn
  have hs : s = ⟨(names.getD i []).toArray⟩ := by
    rw [hn]
  rw [hc, ← hs]
  rw [Nat.mul_one] at e1
  have := congrArg (fun l => l[0]?) e1
  simpa [List.getElem?_take, List.getElem?_drop] using this

set_option maxHeartbeats 1000000 in
theorem walk {w : World} (n : Int) (_wn : (Lit.int .i64 n).wf = true) (hL : laidMetH Tryd.prog Rows.fnExactCodeNameRow.laid w) :
    Calls Tryd.prog 3 #[.int .i64 n] w fun e w' => e = .returned (.bool true) ∧ Below w.heap.size w w' := by
  have ht := table hL
  by_cases h0 : n < 0
  · go_enter Tryd.func3, Tryd.ntmps3
    go_wp2
    go_ret
    exact ⟨rfl, (by repeat (first | exact Below.refl _ _ | refine Below.alloc ?_ (by simp; try omega) _ | refine Below.setCell ?_ (by simp; try omega) _))⟩
  · by_cases h1 : 10 < n
    · have h2 : 11 ≤ n := by omega
      have h3 : ¬ n ≤ 10 := by omega
      have h4 : 0 ≤ n := by omega
      go_enter Tryd.func3, Tryd.ntmps3
      go_wp2
      go_ret
      exact ⟨rfl, (by repeat (first | exact Below.refl _ _ | refine Below.alloc ?_ (by simp; try omega) _ | refine Below.setCell ?_ (by simp; try omega) _))⟩
    · have hn : n = 0 ∨ n = 1 ∨ n = 2 ∨ n = 3 ∨ n = 4 ∨ n = 5 ∨ n = 6 ∨ n = 7 ∨ n = 8 ∨ n = 9 ∨ n = 10 := by omega
      clear h0 h1 _wn
      rcases hn with rfl | rfl | rfl | rfl | rfl | rfl | rfl | rfl | rfl | rfl | rfl
      · have c : w.cell? ⟨0, 0, none⟩ = some (.string ⟨#[111, 107]⟩) := ht 0 (by omega)
        have z := World.block_lt_of_cell? w _ c
        simp at z
        clear ht
        go_enter Tryd.func3, Tryd.ntmps3
        go_wp2
        go_ret
        exact ⟨rfl, (by repeat (first | exact Below.refl _ _ | refine Below.alloc ?_ (by simp; try omega) _ | refine Below.setCell ?_ (by simp; try omega) _))⟩
      · have c : w.cell? ⟨0, 1, none⟩ = some (.string ⟨#[105, 110, 118, 97, 108, 105, 100]⟩) := ht 1 (by omega)
        have z := World.block_lt_of_cell? w _ c
        simp at z
        clear ht
        go_enter Tryd.func3, Tryd.ntmps3
        go_wp2
        go_ret
        exact ⟨rfl, (by repeat (first | exact Below.refl _ _ | refine Below.alloc ?_ (by simp; try omega) _ | refine Below.setCell ?_ (by simp; try omega) _))⟩
      · have c : w.cell? ⟨0, 2, none⟩ = some (.string ⟨#[114, 97, 110, 103, 101]⟩) := ht 2 (by omega)
        have z := World.block_lt_of_cell? w _ c
        simp at z
        clear ht
        go_enter Tryd.func3, Tryd.ntmps3
        go_wp2
        go_ret
        exact ⟨rfl, (by repeat (first | exact Below.refl _ _ | refine Below.alloc ?_ (by simp; try omega) _ | refine Below.setCell ?_ (by simp; try omega) _))⟩
      · have c : w.cell? ⟨0, 3, none⟩ = some (.string ⟨#[110, 111, 116, 45, 102, 111, 117, 110, 100]⟩) := ht 3 (by omega)
        have z := World.block_lt_of_cell? w _ c
        simp at z
        clear ht
        go_enter Tryd.func3, Tryd.ntmps3
        go_wp2
        go_ret
        exact ⟨rfl, (by repeat (first | exact Below.refl _ _ | refine Below.alloc ?_ (by simp; try omega) _ | refine Below.setCell ?_ (by simp; try omega) _))⟩
      · have c : w.cell? ⟨0, 4, none⟩ = some (.string ⟨#[101, 120, 105, 115, 116, 115]⟩) := ht 4 (by omega)
        have z := World.block_lt_of_cell? w _ c
        simp at z
        clear ht
        go_enter Tryd.func3, Tryd.ntmps3
        go_wp2
        go_ret
        exact ⟨rfl, (by repeat (first | exact Below.refl _ _ | refine Below.alloc ?_ (by simp; try omega) _ | refine Below.setCell ?_ (by simp; try omega) _))⟩
      · have c : w.cell? ⟨0, 5, none⟩ = some (.string ⟨#[102, 117, 108, 108]⟩) := ht 5 (by omega)
        have z := World.block_lt_of_cell? w _ c
        simp at z
        clear ht
        go_enter Tryd.func3, Tryd.ntmps3
        go_wp2
        go_ret
        exact ⟨rfl, (by repeat (first | exact Below.refl _ _ | refine Below.alloc ?_ (by simp; try omega) _ | refine Below.setCell ?_ (by simp; try omega) _))⟩
      · have c : w.cell? ⟨0, 6, none⟩ = some (.string ⟨#[115, 116, 97, 116, 101]⟩) := ht 6 (by omega)
        have z := World.block_lt_of_cell? w _ c
        simp at z
        clear ht
        go_enter Tryd.func3, Tryd.ntmps3
        go_wp2
        go_ret
        exact ⟨rfl, (by repeat (first | exact Below.refl _ _ | refine Below.alloc ?_ (by simp; try omega) _ | refine Below.setCell ?_ (by simp; try omega) _))⟩
      · have c : w.cell? ⟨0, 7, none⟩ = some (.string ⟨#[115, 121, 110, 116, 97, 120]⟩) := ht 7 (by omega)
        have z := World.block_lt_of_cell? w _ c
        simp at z
        clear ht
        go_enter Tryd.func3, Tryd.ntmps3
        go_wp2
        go_ret
        exact ⟨rfl, (by repeat (first | exact Below.refl _ _ | refine Below.alloc ?_ (by simp; try omega) _ | refine Below.setCell ?_ (by simp; try omega) _))⟩
      · have c : w.cell? ⟨0, 8, none⟩ = some (.string ⟨#[102, 111, 114, 109, 97, 116]⟩) := ht 8 (by omega)
        have z := World.block_lt_of_cell? w _ c
        simp at z
        clear ht
        go_enter Tryd.func3, Tryd.ntmps3
        go_wp2
        go_ret
        exact ⟨rfl, (by repeat (first | exact Below.refl _ _ | refine Below.alloc ?_ (by simp; try omega) _ | refine Below.setCell ?_ (by simp; try omega) _))⟩
      · have c : w.cell? ⟨0, 9, none⟩ = some (.string ⟨#[99, 108, 97, 115, 104]⟩) := ht 9 (by omega)
        have z := World.block_lt_of_cell? w _ c
        simp at z
        clear ht
        go_enter Tryd.func3, Tryd.ntmps3
        go_wp2
        go_ret
        exact ⟨rfl, (by repeat (first | exact Below.refl _ _ | refine Below.alloc ?_ (by simp; try omega) _ | refine Below.setCell ?_ (by simp; try omega) _))⟩
      · have c : w.cell? ⟨0, 10, none⟩ = some (.string ⟨#[115, 116, 117, 99, 107]⟩) := ht 10 (by omega)
        have z := World.block_lt_of_cell? w _ c
        simp at z
        clear ht
        go_enter Tryd.func3, Tryd.ntmps3
        go_wp2
        go_ret
        exact ⟨rfl, (by repeat (first | exact Below.refl _ _ | refine Below.alloc ?_ (by simp; try omega) _ | refine Below.setCell ?_ (by simp; try omega) _))⟩
end Go.Proofs.YtemeaeafdhgfaaaDoor.fnExactCodeName
