/-
  The walk of the law FnExactSplitWords: it returns true at every input.
-/
import Derived.Test.YtfajbikgonlhfaaWordsImpl
import Derived.Test.YtfajbikgonlhfaaMarksS
namespace Go.Proofs.Ytfajbikgonlhfaa.fnExactSplitWords
open Go.RowKit
set_option maxRecDepth 100000 in
set_option maxHeartbeats 4000000 in
theorem walk {w : World} (f0 : ByteArray) (_wf0 : f0.size ≤ maxLen) :
    Calls Try.prog 3 #[.string f0] w fun e w' => e = .returned (.bool true) ∧ Below w.heap.size w w' := by
  by_cases hz0 : 1048576 < f0.size
  · go_enter Try.func3, Try.ntmps3
    go_wp2
    go_ret
    exact ⟨rfl, Below.refl _ _⟩
  · have hz0' : f0.size ≤ 1048576 := by omega
    obtain ⟨ws, hres⟩ : ∃ ws, wordsOf f0 = ws := ⟨_, rfl⟩
    have hlen := wordsOf_len f0
    rw [hres] at hlen
    obtain ⟨m, hm⟩ : ∃ m, ws.length = m := ⟨_, rfl⟩
    rw [hm] at hlen
    have HML := Lib.hid hm
    have RES := Lib.hid hres
    clear hres hm
    have HMM : Hid (m ≤ maxLen) := by unfold Hid maxLen; omega
    go_enter Try.func3, Try.ntmps3
    go_wp2_with fail
    refine (specWords_any f0 hz0' _).mono ?_
    intro e w1 hgv
    rw [RES.out] at hgv
    obtain ⟨aW, cW, rfl, hb1, ho1⟩ := hgv.elim HML
    clear hgv
    have W1 := Lib.hid (Row.of ho1)
    have B1 := Lib.hid (Below.trans (Below.refl w.heap.size w) hb1)
    have S0 : Hid (w.heap.size ≤ w1.heap.size) := hb1.size
    clear hb1 ho1 
    go_wp2_with fail
    refine (implWords_any f0 hz0' _).mono ?_
    intro e w2 hgv
    rw [RES.out] at hgv
    obtain ⟨aG, cG, rfl, hb2, ho2⟩ := hgv.elim HML
    clear hgv
    have G2 := Lib.hid (Row.of ho2)
    have W2 := Lib.hid (W1.out.below hb2)
    have B2 := Lib.hid (two_worldsC B1.out hb2)
    have S1 : Hid (w1.heap.size ≤ w2.heap.size) := hb2.size
    clear hb2 ho2 W1 B1
    have Q2 := Lib.hid (own_RS HML G2.out.1)
    have U2 := Lib.hid (own_RS HML W2.out.1)
    go_wp2_with fail
    refine (eqStringS_any _ _ ws ws _ _ _ _ _ HML HML Q2.out U2.out HMM.out).mono ?_
    rintro e w3 ⟨rfl, hb3⟩
    have W3 := Lib.hid (W2.out.below hb3)
    have G3 := Lib.hid (G2.out.below hb3)
    have B3 := Lib.hid (two_worldsC B2.out hb3)
    have S2 : Hid (w2.heap.size ≤ w3.heap.size) := hb3.size
    clear hb3 Q2 U2 W2 G2 B2
    go_wp2_with fail
    refine (markStringS_any aG _ _ m cG 1 _ G3.out.1 (by omega) (by omega) (by omega)).mono ?_
    rintro e w4 ⟨rfl, hgr, hom⟩
    have hu := G3.out.2
    have nn := And.intro S0.out (And.intro S1.out S2.out)
    have W4 := Lib.hid (W3.out.kept hgr hu (by omega))
    have B4 : Hid (Below w.heap.size w w4) := below_mark B3.out hgr B3.out.size hu (by omega)
    have S3 : Hid (w3.heap.size ≤ w4.heap.size) := hgr.size
    have M4 : Hid (Row _ _ 9 1 (.slice aG m cG) m ((marksS markT 1 m).map Value.string) w4) := ⟨hom, hu⟩
    clear hgr hom nn hu G3 W3 B3
    have Q4 := Lib.hid (own_RS (marksS_length markT 1 m) M4.out.1)
    go_wp2_with fail
    refine (heldStringS_any aG m cG 1 _ Q4.out (by omega) (by omega) (by omega)).mono ?_
    rintro e w5 ⟨rfl, hb5⟩
    have W5 := Lib.hid (W4.out.below hb5)
    have M5 := Lib.hid (M4.out.below hb5)
    have B5 := Lib.hid (two_worldsC B4.out hb5)
    have S4 : Hid (w4.heap.size ≤ w5.heap.size) := hb5.size
    clear hb5 Q4 W4 M4 B4
    go_wp2_with fail
    refine (implWords_any f0 hz0' _).mono ?_
    intro e w6 hgv
    rw [RES.out] at hgv
    obtain ⟨aH, cH, rfl, hb6, ho6⟩ := hgv.elim HML
    clear hgv
    have H6 := Lib.hid (Row.of ho6)
    have W6 := Lib.hid (W5.out.below hb6)
    have M6 := Lib.hid (M5.out.below hb6)
    have B6 := Lib.hid (two_worldsC B5.out hb6)
    have S5 : Hid (w5.heap.size ≤ w6.heap.size) := hb6.size
    clear hb6 ho6 W5 M5 B5
    have Q6 := Lib.hid (own_RS HML H6.out.1)
    have U6 := Lib.hid (own_RS HML W6.out.1)
    go_wp2_with fail
    refine (eqStringS_any _ _ ws ws _ _ _ _ _ HML HML Q6.out U6.out HMM.out).mono ?_
    rintro e w7 ⟨rfl, hb7⟩
    have W7 := Lib.hid (W6.out.below hb7)
    have M7 := Lib.hid (M6.out.below hb7)
    have H7 := Lib.hid (H6.out.below hb7)
    have B7 := Lib.hid (two_worldsC B6.out hb7)
    have S6 : Hid (w6.heap.size ≤ w7.heap.size) := hb7.size
    clear hb7 Q6 U6 W6 M6 H6 B6
    have Q7 := Lib.hid (own_RS (marksS_length markT 1 m) M7.out.1)
    go_wp2_with fail
    refine (heldStringS_any aG m cG 1 _ Q7.out (by omega) (by omega) (by omega)).mono ?_
    rintro e w8 ⟨rfl, hb8⟩
    have W8 := Lib.hid (W7.out.below hb8)
    have M8 := Lib.hid (M7.out.below hb8)
    have H8 := Lib.hid (H7.out.below hb8)
    have B8 := Lib.hid (two_worldsC B7.out hb8)
    have S7 : Hid (w7.heap.size ≤ w8.heap.size) := hb8.size
    clear hb8 Q7 W7 M7 H7 B7
    go_wp2
    go_ret
    exact ⟨rfl, B8.out⟩
end Go.Proofs.Ytfajbikgonlhfaa.fnExactSplitWords
