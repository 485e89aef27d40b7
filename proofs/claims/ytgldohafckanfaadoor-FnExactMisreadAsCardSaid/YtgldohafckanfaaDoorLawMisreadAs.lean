/-
  The walk of the law FnExactMisreadAs: it returns true at every input.
-/
import Derived.Test.YtgldohafckanfaaDoorMisImpl
import Derived.Test.YtgldohafckanfaaDoorBitLaid
import Derived.Test.YtgldohafckanfaaDoorMarksS
import Derived.Test.YtgldohafckanfaaDoorMarksI
import Derived.Test.YtgldohafckanfaaDoorRows
namespace Go.Proofs.YtgldohafckanfaaDoor.fnExactMisreadAs
open Go.RowKit
set_option maxRecDepth 100000 in
set_option maxHeartbeats 8000000 in
theorem walk {w : World} (f0 : Int) (_wf0 : (Lit.int .i64 f0).wf = true) (v : Value) (ss : List ByteArray) (hw : TextsIn w v ss) (x0 : Int) (_wx0 : (Lit.int .i64 x0).wf = true) (x1 : Int) (_wx1 : (Lit.int .i64 x1).wf = true) (_hL : laidMetH Tryd.prog Rows.fnExactMisreadAsRow.laid w) :
    Calls Tryd.prog 11 #[.int .i64 f0, v, .int .i64 x0, .int .i64 x1] w fun e w' => e = .returned (.bool true) ∧ Below w.heap.size w w' := by
  have HT : Hid (∀ W, Below w.heap.size w W → BitTab W) := by
    rw [MakeChecks.laidMetH_plain _ _ _ (by kernel_rfl)] at _hL
    exact fun W hB => (bit_of_laid _hL).below hB
  clear _hL
  obtain ⟨a, n, ca, rfl, hn, hmax, ha, hsm⟩ := hw
  have HSM := Lib.hid hsm
  have HA : Hid (∀ w', Below w.heap.size w w' → RS w' a ss) := fun w' h => ha.below h
  clear hsm
  have hmx := hmax
  unfold maxLen at hmx
  obtain ⟨ws, rc, hres⟩ : ∃ ws rc, misAns f0 ss x0 x1 = (ws, rc) := ⟨_, _, rfl⟩
  go_enter Tryd.func11, Tryd.ntmps11
  go_wp2_with fail
  refine (szStringS_any a ss n ca 1048576 _ hn ha HSM (by omega) (by omega) hmax).mono ?_
  rintro e w1 ⟨⟨r, rfl, hr⟩, rfl⟩
  rcases hr with rfl | ⟨hr0, hr1, hen⟩
  · go_wp2
    go_ret
    exact ⟨rfl, Below.refl _ _⟩
  · have hn' : n ≤ 1048576 := by have := hen.1; omega
    have HSZ : Hid (∀ s ∈ ss, s.size ≤ 1048576) := fun s hs => by have := hen.2 s hs; omega
    clear hen ha
    have hlen := misAns_len f0 ss x0 x1 (by rw [hn.out]; exact hn')
    rw [hres] at hlen
    simp only at hlen
    obtain ⟨m, hm⟩ : ∃ m, ws.length = m := ⟨_, rfl⟩
    rw [hm] at hlen
    have HML := Lib.hid hm
    have RES := Lib.hid hres
    clear hres hm
    have HMM : Hid (m ≤ maxLen) := by unfold Hid maxLen; omega
    have B0 : Hid (Below w.heap.size w w) := Below.refl _ _
    go_wp2_with fail
    refine (toStringS_any a ss n ca _ hn (HA.out _ B0.out) hn').mono ?_
    rintro e w2 ⟨gA, rfl, hgA, hb, hoA⟩
    have A1 := Lib.hid (Row.of hoA)
    clear hoA hgA
    have B1 := Lib.hid (two_worldsC B0.out hb)
    have S0 : Hid (w.heap.size ≤ w2.heap.size) := hb.size
    clear hb B0
    go_wp2_with fail
    have HX := Lib.hid (rowS_RS hn A1.out.1)
    refine (specMis_any f0 (some ⟨gA, 0, none⟩) ss n n x0 x1 _ hn HX.out hn' HSZ).mono ?_
    intro e w3 hgv
    rw [RES.out] at hgv
    obtain ⟨aW, cW, rfl, hb, ho⟩ := hgv.elim HML
    clear hgv HX
    have W2 := Lib.hid (Row.of ho)
    clear ho
    have A2 := Lib.hid (A1.out.below hb)
    have B2 := Lib.hid (two_worldsC B1.out hb)
    have S1 : Hid (w2.heap.size ≤ w3.heap.size) := hb.size
    clear hb A1 B1
    clear A2
    go_wp2_with fail
    refine (toStringS_any a ss n ca _ hn (HA.out _ B2.out) hn').mono ?_
    rintro e w4 ⟨gX, rfl, hgX, hb, hoX⟩
    have X3 := Lib.hid (Row.of hoX)
    clear hoX hgX
    have W3 := Lib.hid (W2.out.below hb)
    have B3 := Lib.hid (two_worldsC B2.out hb)
    have S2 : Hid (w3.heap.size ≤ w4.heap.size) := hb.size
    clear hb W2 B2
    go_wp2_with fail
    have HX := Lib.hid (rowS_RS hn X3.out.1)
    refine (implMis_any f0 (some ⟨gX, 0, none⟩) ss n n x0 x1 _ hn HX.out hn' (Nat.le_refl n) hn' HSZ (HT.out _ B3.out)).mono ?_
    intro e w5 hgv
    rw [RES.out] at hgv
    obtain ⟨aG, cG, rfl, hb, ho⟩ := hgv.elim HML
    clear hgv HX
    have G4 := Lib.hid (Row.of ho)
    clear ho
    have W4 := Lib.hid (W3.out.below hb)
    have X4 := Lib.hid (X3.out.below hb)
    have B4 := Lib.hid (two_worldsC B3.out hb)
    have S3 : Hid (w4.heap.size ≤ w5.heap.size) := hb.size
    clear hb W3 X3 B3
    have QA := Lib.hid (own_RI HML G4.out.1)
    have QB := Lib.hid (own_RI HML W4.out.1)
    go_wp2_with fail
    refine (eqInt64S_any _ _ ws ws _ _ _ _ _ HML HML QA.out QB.out HMM.out).mono ?_
    rintro e w6 ⟨rfl, hb⟩
    clear QA QB
    have W5 := Lib.hid (W4.out.below hb)
    have X5 := Lib.hid (X4.out.below hb)
    have G5 := Lib.hid (G4.out.below hb)
    have B5 := Lib.hid (two_worldsC B4.out hb)
    have S4 : Hid (w5.heap.size ≤ w6.heap.size) := hb.size
    clear hb W4 X4 G4 B4
    go_wp2_with fail
    refine (toStringS_any a ss n ca _ hn (HA.out _ B5.out) hn').mono ?_
    rintro e w7 ⟨gT, rfl, hgT, hb, hoT⟩
    have T6 := Lib.hid (Row.of hoT)
    clear hoT hgT
    have W6 := Lib.hid (W5.out.below hb)
    have X6 := Lib.hid (X5.out.below hb)
    have G6 := Lib.hid (G5.out.below hb)
    have B6 := Lib.hid (two_worldsC B5.out hb)
    have S5 : Hid (w6.heap.size ≤ w7.heap.size) := hb.size
    clear hb W5 X5 G5 B5
    have QA := Lib.hid (rowS_RS hn X6.out.1)
    have QB := Lib.hid (rowS_RS hn T6.out.1)
    go_wp2_with fail
    refine (eqStringS_any _ _ ss ss n n _ _ _ hn hn QA.out QB.out hmax).mono ?_
    rintro e w8 ⟨rfl, hb⟩
    clear QA QB
    have W7 := Lib.hid (W6.out.below hb)
    have X7 := Lib.hid (X6.out.below hb)
    have G7 := Lib.hid (G6.out.below hb)
    have T7 := Lib.hid (T6.out.below hb)
    have B7 := Lib.hid (two_worldsC B6.out hb)
    have S6 : Hid (w7.heap.size ≤ w8.heap.size) := hb.size
    clear hb W6 X6 G6 T6 B6
    clear T7
    go_wp2_with fail
    refine (markStringS_any (some ⟨gX, 0, none⟩) _ _ n n 1 _ X7.out.1 (by omega) (by omega) (by omega)).mono ?_
    rintro e w9 ⟨rfl, hgr, hom⟩
    have hu := X7.out.2
    have nn := And.intro S0.out (And.intro S1.out (And.intro S2.out (And.intro S3.out (And.intro S4.out (And.intro S5.out S6.out)))))
    have W8 := Lib.hid (W7.out.kept hgr hu (by omega))
    have G8 := Lib.hid (G7.out.kept hgr hu (by omega))
    have B8 : Hid (Below w.heap.size w w9) := below_mark B7.out hgr B7.out.size hu (by omega)
    have S7 : Hid (w8.heap.size ≤ w9.heap.size) := hgr.size
    clear hgr hom nn hu B7 W7 X7 G7
    have QA := Lib.hid (own_RI HML G8.out.1)
    have QB := Lib.hid (own_RI HML W8.out.1)
    go_wp2_with fail
    refine (eqInt64S_any _ _ ws ws _ _ _ _ _ HML HML QA.out QB.out HMM.out).mono ?_
    rintro e w10 ⟨rfl, hb⟩
    clear QA QB
    have W9 := Lib.hid (W8.out.below hb)
    have G9 := Lib.hid (G8.out.below hb)
    have B9 := Lib.hid (two_worldsC B8.out hb)
    have S8 : Hid (w9.heap.size ≤ w10.heap.size) := hb.size
    clear hb W8 G8 B8
    go_wp2_with fail
    refine (markInt64S_any aG _ _ m cG 1 _ G9.out.1 (by omega) (by omega) (by omega)).mono ?_
    rintro e w11 ⟨rfl, hgr, hom⟩
    have hu := G9.out.2
    have nn := And.intro S0.out (And.intro S1.out (And.intro S2.out (And.intro S3.out (And.intro S4.out (And.intro S5.out (And.intro S6.out (And.intro S7.out S8.out)))))))
    have W10 := Lib.hid (W9.out.kept hgr hu (by omega))
    have B10 : Hid (Below w.heap.size w w11) := below_mark B9.out hgr B9.out.size hu (by omega)
    have S9 : Hid (w10.heap.size ≤ w11.heap.size) := hgr.size
    have M10 : Hid (Row _ _ 2 1 (.slice aG m cG) m ((marksI 1 m).map (Value.int .i64)) w11) := ⟨hom, hu⟩
    clear hgr hom nn hu B9 W9 G9
    have QH := Lib.hid (own_RI (marksI_length 1 m) M10.out.1)
    go_wp2_with fail
    refine (heldInt64S_any aG m cG 1 _ QH.out (by omega) (by omega) (by omega)).mono ?_
    rintro e w12 ⟨rfl, hb'⟩
    have hb : Below w11.heap.size w11 w12 := hb' ▸ Below.refl _ _
    clear hb'
    clear QH
    have W11 := Lib.hid (W10.out.below hb)
    have M11 := Lib.hid (M10.out.below hb)
    have B11 := Lib.hid (two_worldsC B10.out hb)
    have S10 : Hid (w11.heap.size ≤ w12.heap.size) := hb.size
    clear hb W10 M10 B10
    go_wp2_with fail
    refine (toStringS_any a ss n ca _ hn (HA.out _ B11.out) hn').mono ?_
    rintro e w13 ⟨gZ, rfl, hgZ, hb, hoZ⟩
    have Z12 := Lib.hid (Row.of hoZ)
    clear hoZ hgZ
    have W12 := Lib.hid (W11.out.below hb)
    have M12 := Lib.hid (M11.out.below hb)
    have B12 := Lib.hid (two_worldsC B11.out hb)
    have S11 : Hid (w12.heap.size ≤ w13.heap.size) := hb.size
    clear hb W11 M11 B11
    go_wp2_with fail
    have HX := Lib.hid (rowS_RS hn Z12.out.1)
    refine (implMis_any f0 (some ⟨gZ, 0, none⟩) ss n n x0 x1 _ hn HX.out hn' (Nat.le_refl n) hn' HSZ (HT.out _ B12.out)).mono ?_
    intro e w14 hgv
    rw [RES.out] at hgv
    obtain ⟨aH, cH, rfl, hb, ho⟩ := hgv.elim HML
    clear hgv HX
    have H13 := Lib.hid (Row.of ho)
    clear ho
    have W13 := Lib.hid (W12.out.below hb)
    have M13 := Lib.hid (M12.out.below hb)
    have Z13 := Lib.hid (Z12.out.below hb)
    have B13 := Lib.hid (two_worldsC B12.out hb)
    have S12 : Hid (w13.heap.size ≤ w14.heap.size) := hb.size
    clear hb W12 M12 Z12 B12
    clear Z13
    have QA := Lib.hid (own_RI HML H13.out.1)
    have QB := Lib.hid (own_RI HML W13.out.1)
    go_wp2_with fail
    refine (eqInt64S_any _ _ ws ws _ _ _ _ _ HML HML QA.out QB.out HMM.out).mono ?_
    rintro e w15 ⟨rfl, hb⟩
    clear QA QB
    have W14 := Lib.hid (W13.out.below hb)
    have M14 := Lib.hid (M13.out.below hb)
    have H14 := Lib.hid (H13.out.below hb)
    have B14 := Lib.hid (two_worldsC B13.out hb)
    have S13 : Hid (w14.heap.size ≤ w15.heap.size) := hb.size
    clear hb W13 M13 H13 B13
    have QH := Lib.hid (own_RI (marksI_length 1 m) M14.out.1)
    go_wp2_with fail
    refine (heldInt64S_any aG m cG 1 _ QH.out (by omega) (by omega) (by omega)).mono ?_
    rintro e w16 ⟨rfl, hb'⟩
    have hb : Below w15.heap.size w15 w16 := hb' ▸ Below.refl _ _
    clear hb'
    clear QH
    have W15 := Lib.hid (W14.out.below hb)
    have M15 := Lib.hid (M14.out.below hb)
    have H15 := Lib.hid (H14.out.below hb)
    have B15 := Lib.hid (two_worldsC B14.out hb)
    have S14 : Hid (w15.heap.size ≤ w16.heap.size) := hb.size
    clear hb W14 M14 H14 B14
    go_wp2
    go_ret
    exact ⟨rfl, B15.out⟩
end Go.Proofs.YtgldohafckanfaaDoor.fnExactMisreadAs
