/-
  The walks of IsWay, the model's and the program's: whether tubes follow one another from a station to another one.
-/
import Derived.Test.YtenjigifjkfiaaaNetCode
namespace Go.Proofs.Ytenjigifjkfiaaa
open Go.RowKit

/-- Where one comes by tubes that follow one another; nothing where one does not follow. -/
def wayEnd (ts : List T3) : List Int → Int → Option Int
  | [], f => some f
  | k :: r, f => match ts[k.toNat]? with
    | some t => if t.1 = f then wayEnd ts r t.2.1 else none
    | none => none
def isWayB (ts : List T3) (way : List Int) (f to : Int) : Bool := wayEnd ts way f == some to
theorem wayEnd_no {ts : List T3} {way : List Int} {k : Nat} {f : Int} (hk : k < way.length) {t : T3} (ht : ts[(way[k]).toNat]? = some t) (h : ¬ t.1 = f) : wayEnd ts (way.drop k) f = none := by
  rw [List.drop_eq_getElem_cons hk]
  simp [wayEnd, ht, h]
theorem wayEnd_step {ts : List T3} {way : List Int} {k : Nat} {f : Int} (hk : k < way.length) {t : T3} (ht : ts[(way[k]).toNat]? = some t) (h : t.1 = f) : wayEnd ts (way.drop k) f = wayEnd ts (way.drop (k + 1)) t.2.1 := by
  rw [List.drop_eq_getElem_cons hk]
  simp [wayEnd, ht, h]
theorem wayEnd_done {ts : List T3} {way : List Int} {k : Nat} {f : Int} (hk : way.length ≤ k) : wayEnd ts (way.drop k) f = some f := by
  rw [List.drop_eq_nil_of_le hk]; rfl

theorem tubesB_parts {n : Nat} {way : List Int} (h : tubesB n way = true) (k : Nat) (hk : k < way.length) : 0 ≤ way[k] ∧ way[k] < n := by
  unfold tubesB at h
  rw [List.all_eq_true] at h
  exact stB_parts (h _ (List.getElem_mem hk))

/-- What IsWay returns: whether tubes are a way, and the code. -/
def isWayOf (s : Int) (ts : List T3) (n : Nat) (way : List Int) (x y : Int) : Bool × Int :=
  if codeOf s ts [x, y] = 0 then (if tubesB n way = true then (isWayB ts way x y, 0) else (false, 2)) else (false, codeOf s ts [x, y])

theorem ret_two {a c : Bool} {b d : Int} (h : (a, b) = (c, d)) : Ending.returned (.tuple #[.bool a, .int .i64 b]) = .returned (.tuple #[.bool c, .int .i64 d]) := by
  injection h with h1 h2; rw [h1, h2]

end Go.Proofs.Ytenjigifjkfiaaa
