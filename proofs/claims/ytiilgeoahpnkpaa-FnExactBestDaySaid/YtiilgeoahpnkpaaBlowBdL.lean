/-
  Blowers: how long a day's list is.
-/
import Derived.Test.YtiilgeoahpnkpaaBlowBd3
namespace Go.Proofs.Ytiilgeoahpnkpaa
open Go.RowKit
theorem dayOf_len (ts : List TBlower) (ns : List Int) : (dayOf ts ns).1.length ≤ 1048576 := by
  by_cases h : ncode ts ns = 0
  · cases hf : feasB ts ns with
    | false => rw [dayOf_none h hf]; simp
    | true =>
      rw [dayOf_good h hf]
      have := (neB_of (ncode_of h).2).1
      simp only [pathL_len]
      omega
  · rw [dayOf_bad h]; simp
end Go.Proofs.Ytiilgeoahpnkpaa
