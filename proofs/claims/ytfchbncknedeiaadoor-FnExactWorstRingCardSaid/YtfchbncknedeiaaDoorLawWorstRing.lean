/-
  The walk of the law FnExactWorstRing: it returns true at every input.
-/
import Derived.Test.YtfchbncknedeiaaDoorWorstImpl
import Derived.Test.YtfchbncknedeiaaDoorRows
namespace Go.Proofs.YtfchbncknedeiaaDoor.fnExactWorstRing
open Go.RowKit
set_option maxRecDepth 100000 in
set_option maxHeartbeats 4000000 in
theorem walk {w : World} (f0 : Int) (_wf0 : (Lit.int .i64 f0).wf = true) (v : Value) (ss : List ByteArray) (hw : TextsIn w v ss) (_hL : laidMetH Tryd.prog Rows.fnExactWorstRingRow.laid w) :
    Calls Tryd.prog 3 #[.int .i64 f0, v] w fun e w' => e = .returned (.bool true) ∧ Below w.heap.size w w' := by
  obtain ⟨a, n, ca, rfl, hn, hmax, ha, hsm⟩ := hw
  have HSM := Lib.hid hsm
  have HA : Hid (∀ w', Below w.heap.size w w' → RS w' a ss) := fun w' h => ha.below h
  clear hsm
  have hmx := hmax
  unfold maxLen at hmx
  go_enter Tryd.func3, Tryd.ntmps3
  go_wp2_with fail
  refine (szStringS_any a ss n ca 1048576 _ hn ha HSM (by omega) (by omega) hmax).mono ?_
  rintro e w1 ⟨⟨r, rfl, hr⟩, rfl⟩
  rcases hr with rfl | ⟨hr0, hr1, hen⟩
  · go_wp2
    go_ret
    exact ⟨rfl, Below.refl _ _⟩
  · have hn' : n ≤ 1048576 := by have := hen.1; omega
    have HSZ : Hid (∀ s ∈ ss, s.size ≤ 1048576) := fun s hs => by have := hen.2 s hs; omega
    clear hen ha
    go_wp2_with fail
    refine (toStringS_any a ss n ca _ hn (HA.out _ (Below.refl _ _)) hn').mono ?_
    rintro e w1 ⟨g1, rfl, hg1, hb1, ho1⟩
    go_wp2_with fail
    refine (specWorst_any f0 (some ⟨g1, 0, none⟩) ss n n _ hn (rowS_RS hn ho1) hn' HSZ).mono ?_
    rintro e w2 ⟨rfl, hb2⟩
    have B2 := Lib.hid (two_worlds hb1 hb2)
    clear hb1 hb2 ho1 hg1
    go_wp2_with fail
    refine (toStringS_any a ss n ca _ hn (HA.out _ B2.out) hn').mono ?_
    rintro e w3 ⟨g3, rfl, hg3, hb3, ho3⟩
    have B3 := Lib.hid (two_worlds B2.out hb3)
    have O3 := Lib.hid ho3
    clear hb3 ho3 B2 hg3
    go_wp2_with fail
    refine (implWorst_any f0 (some ⟨g3, 0, none⟩) ss n n _ hn (rowS_RS hn O3.out) hn' (Nat.le_refl n) hn' HSZ).mono ?_
    rintro e w4 ⟨rfl, hb4⟩
    have B4 := Lib.hid (two_worlds B3.out hb4)
    have R4 := Lib.hid ((rowS_RS hn O3.out).below hb4)
    clear hb4 O3 B3
    go_wp2_with fail
    refine (toStringS_any a ss n ca _ hn (HA.out _ B4.out) hn').mono ?_
    rintro e w5 ⟨g5, rfl, hg5, hb5, ho5⟩
    have B5 := Lib.hid (two_worlds B4.out hb5)
    have R5 := Lib.hid (R4.out.below hb5)
    have T5 := Lib.hid (rowS_RS hn ho5)
    clear hb5 ho5 B4 R4 hg5
    go_wp2_with fail
    refine (eqStringS_any _ _ ss ss n n _ _ _ hn hn R5.out T5.out hmax).mono ?_
    rintro e w6 ⟨rfl, hb6⟩
    have B6 := Lib.hid (two_worlds B5.out hb6)
    clear hb6 B5 R5 T5
    go_wp2
    go_ret
    exact ⟨rfl, B6.out⟩
end Go.Proofs.YtfchbncknedeiaaDoor.fnExactWorstRing
