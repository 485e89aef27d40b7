/-
  The walks of the laws' own helpers that write marks into a result and look for them again: markTubeS, markNet, heldTubeS, heldNet, markInt64S, heldInt64S.
-/
import Derived.Test.YtenjigifjkfiaaaMarksI
import Derived.Test.YtenjigifjkfiaaaNetTo
namespace Go.Proofs.Ytenjigifjkfiaaa
open Go.RowKit

def marksT (k : Int) (n : Nat) : List T3 := (List.range n).map fun (i : Nat) => (k + 3 * (i : Int), k + 3 * (i : Int) + 1, k + 3 * (i : Int) + 1 + 1)
theorem marksT_length (k : Int) (n : Nat) : (marksT k n).length = n := by simp [marksT]
theorem marksT_get (k : Int) (n i : Nat) (h : i < (marksT k n).length) : (marksT k n)[i] = (k + 3 * (i : Int), k + 3 * (i : Int) + 1, k + 3 * (i : Int) + 1 + 1) := by simp [marksT]
theorem Filled.stepM {ts : List T3} {cur : Array Value} {k : Nat} (h : Filled ts cur k) (hs : k * 3 + 2 < cur.size) (hk : k < ts.length) :
    Filled ts (((cur.setIfInBounds (k * 3) (.int .i64 ts[k].1)).setIfInBounds (k * 3 + 1) (.int .i64 ts[k].2.1)).setIfInBounds (k * 3 + 2) (.int .i64 ts[k].2.2)) (k + 1) := by
  intro i hi hik
  by_cases e : i = k
  · subst e
    refine ⟨?_, ?_, ?_⟩
    all_goals simp [Array.getElem?_setIfInBounds]; omega
  · obtain ⟨h1, h2, h3⟩ := h i hi (by omega)
    refine ⟨?_, ?_, ?_⟩
    · rw [Array.getElem?_setIfInBounds_ne (by omega), Array.getElem?_setIfInBounds_ne (by omega), Array.getElem?_setIfInBounds_ne (by omega)]; exact h1
    · rw [Array.getElem?_setIfInBounds_ne (by omega), Array.getElem?_setIfInBounds_ne (by omega), Array.getElem?_setIfInBounds_ne (by omega)]; exact h2
    · rw [Array.getElem?_setIfInBounds_ne (by omega), Array.getElem?_setIfInBounds_ne (by omega), Array.getElem?_setIfInBounds_ne (by omega)]; exact h3
theorem row_ownM {w : World} {lo g n c : Nat} {e : TypeId} {ts : List T3} {cur : Array Value} (hg : w.heap[g]? = some (.cells cur e (0, 0))) (hlo : lo ≤ g) (hnc : n ≤ c) (hm : c ≤ maxLen) (hs : cur.size = c * 3) (hl : ts.length = n) (h : Filled ts cur n) :
    w.ownsRow lo e 3 (.slice (some ⟨g, 0, none⟩) n c) n (flat ts) := by
  subst hl
  exact ⟨flat_length ts, .inr ⟨g, c, cur, rfl, hlo, hg, hnc, hm, hs, flat_take ts cur.toList (by simp; omega) (fun i hi => by simpa using h i hi hi)⟩⟩
/-- A call marks a slice of its caller's own, and turns nothing else. -/
def MarksT (v : Value) (lo n : Nat) (k : Int) (w : World) (e : Ending) (w' : World) : Prop :=
  e = .returned (.int .i64 (k + 3 * (n : Int))) ∧ w.grownBy w' v.ownBlock ∧ w'.ownsRow lo 36 3 v n (flat (marksT k n))

set_option maxHeartbeats 1000000 in
theorem markTubeS_any (a : Option Addr) (xs : List Value) (lo n c : Nat) (k : Int) (w : World) (hown : w.ownsRow lo 36 3 (.slice a n c) n xs) (hmax : n ≤ 1048577) (h0 : 0 ≤ k) (h1 : k ≤ 1000000000) :
    Calls Try.prog 58 #[.slice a n c, .int .i64 k] w (MarksT (.slice a n c) lo n k w) := by
  rcases hown.2 with ⟨hv, hz⟩ | ⟨g, cap, cur0, hv, hlo, hg, hnc, hcm, hcs, _⟩
  · injection hv with e1 e2 e3
    subst e1 e3
    have HZ := Lib.hid hz
    clear hz e2
    have HR : Hid (MarksT (.slice none n 0) lo n k w (.returned (.int .i64 k)) w) := by
      unfold Hid MarksT
      have := HZ.out
      subst this
      exact ⟨ret_int (by omega), grown_refl _ _, by simpa [marksT, flat] using World.ownsRow_nil w lo 36 3⟩
    clear hown
    go_enter Try.func58, Try.ntmps58
    go_wp2
    go_loop [1, 5] (fun q i => ∃ j : Nat, j ≤ n ∧ i = .int .i64 j ∧ q = .int .i64 k) (fun _ _ => 0)
    case atStart => exact ⟨0, by omega, rfl, rfl⟩
    case round =>
      obtain ⟨j, hj, rfl, rfl⟩ := hrel
      have hlt : ¬ j < n := by rw [HZ.out]; omega
      go_wp2
      go_ret
      exact HR.out
  · injection hv with e1 e2 e3
    subst e1 e3
    clear e2 hown
    have HLO : Hid (lo ≤ g ∧ n ≤ c ∧ c ≤ maxLen ∧ cur0.size = c * 3) := ⟨hlo, hnc, hcm, hcs⟩
    have HG0 := Lib.hid hg
    clear hlo hnc hcm hcs hg
    go_enter Try.func58, Try.ntmps58
    go_wp2
    go_loopw [1, 5] (fun q i wr => ∃ (j : Nat) (cur : Array Value), j ≤ n ∧ i = .int .i64 j ∧ q = .int .i64 (k + 3 * (j : Int)) ∧ Hid (w.grownBy wr (some g)) ∧ Hid (wr.heap[g]? = some (.cells cur 36 (0, 0))) ∧ Hid (cur.size = c * 3) ∧ Filled (marksT k n) cur j) (fun _ i _ => n - (intOf i).toNat)
    case atStart => exact ⟨0, cur0, by omega, rfl, by go_num, grown_refl _ _, HG0, HLO.out.2.2.2, Filled.zero _ _⟩
    case round =>
      obtain ⟨j, cur, hj, rfl, rfl, HGR, HG, HS, hfil⟩ := hrel
      by_cases hlt : j < n
      · have hk0 : (0 : Int) ≤ (j : Int) := by omega
        have hk1 : (j : Int) < (n : Int) := by omega
        have hc3 : j * 3 + 2 < cur.size := by rw [HS.out]; have := HLO.out.2.1; omega
        obtain ⟨⟨v1, o1⟩, ⟨v2, o2⟩, ⟨v3, o3⟩, z1, z2, z3⟩ := three_cells HG.out j hc3
        have HST := Lib.hid (hfil.stepM hc3 (by rw [marksT_length]; exact hlt))
        rw [marksT_get] at HST
        dsimp only at HST
        clear hfil hc3
        go_wp2
        go_roundw
        case rel => exact ⟨j + 1, _, by omega, by go_num, by go_num, grown_setCell (grown_setCell (grown_setCell HGR.out _) _) _, heap_setCell_same _ _ _ _ _ _ (heap_setCell_same _ _ _ _ _ _ (heap_setCell_same _ _ _ _ _ _ HG.out)), by unfold Hid; simp; exact HS.out, HST.out⟩
        case measure => simp [intOf]; omega
      · have hjn : j = n := by omega
        have HR : Hid (MarksT (.slice (some ⟨g, 0, none⟩) n c) lo n k w (.returned (.int .i64 (k + 3 * (j : Int)))) wr) := by
          subst hjn
          exact ⟨rfl, HGR.out, row_ownM HG.out HLO.out.1 HLO.out.2.1 HLO.out.2.2.1 HS.out (marksT_length _ _) hfil⟩
        clear hfil hjn
        go_wp2
        go_ret
        exact HR.out

/-- A call marks what lies in a slice of its caller's own (and makes boxes of its own), and turns nothing else. -/
theorem markNet_any (s : Int) (a : Option Addr) (xs : List Value) (lo n c : Nat) (k : Int) (w : World) (hown : w.ownsRow lo 36 3 (.slice a n c) n xs) (hmax : n ≤ 1048577) (h0 : 0 ≤ k) (h1 : k ≤ 1000000000) :
    Calls Try.prog 28 #[.agg #[.int .i64 s, .slice a n c], .int .i64 k] w (MarksT (.slice a n c) lo n k w) := by
  have HO := Lib.hid (hown.alloc (.cells #[.int .i64 s, .slice a n c] 26))
  clear hown
  go_enter Try.func28, Try.ntmps28
  go_wp2_with fail
  refine (markTubeS_any a xs lo n c k _ HO.out hmax h0 h1).mono ?_
  rintro e w1 ⟨rfl, hg, ho⟩
  have HF : Hid (w.grownBy w1 (Value.ownBlock (.slice a n c)) ∧ w1.ownsRow lo 36 3 (.slice a n c) n (flat (marksT k n))) := by
    refine ⟨⟨hg.os, hg.tape, hg.output, Nat.le_trans (by simp) hg.size, fun i hi hne => (hg.block i (by simp; omega) hne).trans (Below.heap_alloc w _ i hi)⟩, ho⟩
  clear hg ho
  go_wp2
  go_ret
  exact ⟨rfl, HF.out.1, HF.out.2⟩

end Go.Proofs.Ytenjigifjkfiaaa
