/-
  The walks of the checks on stations and tubes: l02Code, checkStations, isTube, l02Tubes.
-/
import Derived.Test.YtbndminegokffaaNetValid
import Derived.Test.YtbndminegokffaaIntList
import Derived.Deep.RegionHeld3
import Derived.IntWalk
import Derived.Test.YtbndminegokffaaMem
namespace Go.Proofs.Ytbndminegokffaa
open Go.RowKit

/-- The code of a network and stations: 1 (invalid), 2 (range), 0 (OK). -/
def codeOf (s : Int) (ts : List T3) (ns : List Int) : Int := if netB s ts = true then (if ns.all (stB s) = true then 0 else 2) else 1
theorem codeOf_inv {s : Int} {ts : List T3} {ns : List Int} (h : netB s ts = false) : codeOf s ts ns = 1 := by unfold codeOf; rw [h]; rfl
theorem codeOf_bad {s : Int} {ts : List T3} {ns : List Int} (h : netB s ts = true) (k : Nat) (hk : k < ns.length) (h2 : stB s ns[k] = false) : codeOf s ts ns = 2 := by
  unfold codeOf
  have : ns.all (stB s) = false := by
    rw [List.all_eq_false]
    exact ⟨ns[k], List.getElem_mem hk, by simp [h2]⟩
  rw [h, this]; rfl
theorem codeOf_ok {s : Int} {ts : List T3} {ns : List Int} (h : netB s ts = true) (h2 : ∀ k (hk : k < ns.length), stB s ns[k] = true) : codeOf s ts ns = 0 := by
  unfold codeOf
  have : ns.all (stB s) = true := by
    rw [List.all_eq_true]
    intro c hc
    obtain ⟨k, hk, rfl⟩ := List.getElem_of_mem hc
    exact h2 k hk
  rw [h, this]; rfl
theorem codeOf_ok_parts {s : Int} {ts : List T3} {ns : List Int} (h : codeOf s ts ns = 0) : netB s ts = true ∧ ∀ x ∈ ns, stB s x = true := by
  unfold codeOf at h
  split at h
  · rename_i hb
    split at h
    · rename_i hc
      exact ⟨hb, by simpa [List.all_eq_true] using hc⟩
    · omega
  · omega
theorem inB_stB (s x : Int) : inB x 0 (s - 1) = stB s x := by unfold inB stB; rw [Bool.eq_iff_iff]; simp; omega

def tubesB (n : Nat) (way : List Int) : Bool := way.all (stB n)
theorem tubesB_bad {n : Nat} {way : List Int} (k : Nat) (hk : k < way.length) (h : stB n way[k] = false) : tubesB n way = false := by
  unfold tubesB
  rw [List.all_eq_false]
  exact ⟨way[k], List.getElem_mem hk, by simp [h]⟩
theorem tubesB_good {n : Nat} {way : List Int} (h : ∀ k (hk : k < way.length), stB n way[k] = true) : tubesB n way = true := by
  unfold tubesB
  rw [List.all_eq_true]
  intro c hc
  obtain ⟨k, hk, rfl⟩ := List.getElem_of_mem hc
  exact h k hk

theorem stB_wrap (n : Nat) (x : Int) (h : n ≤ 1048576) : inB x 0 (IntKind.i64.wrap ((n : Int) - 1)) = stB n x := by rw [IntWalk.i64_in _ (by omega)]; exact inB_stB n x
end Go.Proofs.Ytbndminegokffaa
