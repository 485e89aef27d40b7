/-
  The walks of the laws' own helpers that write marks into a slice of records 'Blower' and look for them again.
-/
import Derived.Test.YtiilgeoahpnkpaaBlowerRec
import Derived.Test.YtiilgeoahpnkpaaMem
namespace Go.Proofs.Ytiilgeoahpnkpaa
open Go.RowKit

def marksBlower (k : Int) (n : Nat) : List TBlower := (List.range n).map fun (i : Nat) => (k + 3 * (i : Int), k + 3 * (i : Int) + 1, k + 3 * (i : Int) + 1 + 1)
theorem marksBlower_length (k : Int) (n : Nat) : (marksBlower k n).length = n := by simp [marksBlower]
theorem marksBlower_get (k : Int) (n i : Nat) (h : i < (marksBlower k n).length) : (marksBlower k n)[i] = (k + 3 * (i : Int), k + 3 * (i : Int) + 1, k + 3 * (i : Int) + 1 + 1) := by simp [marksBlower]
theorem cBlower_stepM {ts : List TBlower} {cur : Array Value} {k : Nat} (h : FilledR 3 cBlower ts cur k) (hs : k * 3 + 2 < cur.size) (hk : k < ts.length) : FilledR 3 cBlower ts (((cur.setIfInBounds (k * 3) (.int .i64 ts[k].1)).setIfInBounds (k * 3 + 1) (.int .i64 ts[k].2.1)).setIfInBounds (k * 3 + 2) (.int .i64 ts[k].2.2)) (k + 1) := by
  refine h.next cBlower_len hk (fun p hp => ?_) (fun j v hj => ?_)
  · rw [Array.getElem?_setIfInBounds_ne (by omega), Array.getElem?_setIfInBounds_ne (by omega), Array.getElem?_setIfInBounds_ne (by omega)]
  · match j, hj with
    | 0, hj => obtain rfl : _ = v := Option.some.inj hj; simp [Array.getElem?_setIfInBounds]; omega
    | 1, hj => obtain rfl : _ = v := Option.some.inj hj; simp [Array.getElem?_setIfInBounds]; omega
    | 2, hj => obtain rfl : _ = v := Option.some.inj hj; simp [Array.getElem?_setIfInBounds]; omega
    | j + 3, hj => simp [cBlower] at hj
theorem cBlower_ownM {w : World} {lo g n c : Nat} {e : TypeId} {ts : List TBlower} {cur : Array Value} (hg : w.heap[g]? = some (.cells cur e (0, 0))) (hlo : lo ≤ g) (hnc : n ≤ c) (hm : c ≤ maxLen) (hs : cur.size = c * 3) (hl : ts.length = n) (h : FilledR 3 cBlower ts cur n) :
    w.ownsRow lo e 3 (.slice (some ⟨g, 0, none⟩) n c) n (ts.flatMap cBlower) := by
  subst hl
  exact ⟨rflat_length cBlower_len ts, .inr ⟨g, c, cur, rfl, hlo, hg, hnc, hm, hs, rflat_take (by omega) cBlower_len ts cur.toList (by simp; omega) (fun i hi j v hj => by simpa using h i hi hi j v hj)⟩⟩
/-- A call marks a slice of its caller's own, and turns nothing else. -/
def MarksBlower (v : Value) (lo n : Nat) (k : Int) (w : World) (e : Ending) (w' : World) : Prop :=
  e = .returned (.int .i64 (k + 3 * (n : Int))) ∧ w.grownBy w' v.ownBlock ∧ w'.ownsRow lo 45 3 v n ((marksBlower k n).flatMap cBlower)

set_option maxHeartbeats 1000000 in
theorem markBlowerS_any (a : Option Addr) (xs : List Value) (lo n c : Nat) (k : Int) (w : World) (hown : w.ownsRow lo 45 3 (.slice a n c) n xs) (hmax : n ≤ 1048577) (h0 : 0 ≤ k) (h1 : k ≤ 4000000000000000) :
    Calls Try.prog 51 #[.slice a n c, .int .i64 k] w (MarksBlower (.slice a n c) lo n k w) := by
  rcases hown.2 with ⟨hv, hz⟩ | ⟨g, cap, cur0, hv, hlo, hg, hnc, hcm, hcs, _⟩
  · injection hv with e1 e2 e3
    subst e1 e3
    have HZ := Lib.hid hz
    clear hz e2
    have HR : Hid (MarksBlower (.slice none n 0) lo n k w (.returned (.int .i64 k)) w) := by
      unfold Hid MarksBlower
      have := HZ.out
      subst this
      exact ⟨ret_int (by omega), grown_refl _ _, by simpa [marksBlower] using World.ownsRow_nil w lo 45 3⟩
    clear hown
    go_enter Try.func51, Try.ntmps51
    go_wp2
    go_loop [1, 5] (fun q i => ∃ j : Nat, j ≤ n ∧ i = .int .i64 j ∧ q = .int .i64 k) (fun _ _ => 0)
    case atStart => exact ⟨0, by omega, rfl, rfl⟩
    case round =>
      obtain ⟨j, hj, rfl, rfl⟩ := hrel
      have hlt : ¬ j < n := by rw [HZ.out]; omega
      go_wp2
      go_ret
      exact HR.out
  · injection hv with e1 e2 e3
    subst e1 e3
    clear e2 hown
    have HLO : Hid (lo ≤ g ∧ n ≤ c ∧ c ≤ maxLen ∧ cur0.size = c * 3) := ⟨hlo, hnc, hcm, hcs⟩
    have HG0 := Lib.hid hg
    clear hlo hnc hcm hcs hg
    go_enter Try.func51, Try.ntmps51
    go_wp2
    go_loopw [1, 5] (fun q i wr => ∃ (j : Nat) (cur : Array Value), j ≤ n ∧ i = .int .i64 j ∧ q = .int .i64 (k + 3 * (j : Int)) ∧ Hid (w.grownBy wr (some g)) ∧ Hid (wr.heap[g]? = some (.cells cur 45 (0, 0))) ∧ Hid (cur.size = c * 3) ∧ FilledR 3 cBlower (marksBlower k n) cur j) (fun _ i _ => n - (intOf i).toNat)
    case atStart => exact ⟨0, cur0, by omega, rfl, by go_num, grown_refl _ _, HG0, HLO.out.2.2.2, FilledR.zero _ _ _ _⟩
    case round =>
      obtain ⟨j, cur, hj, rfl, rfl, HGR, HG, HS, hfil⟩ := hrel
      by_cases hlt : j < n
      · have hk0 : (0 : Int) ≤ (j : Int) := by omega
        have hk1 : (j : Int) < (n : Int) := by omega
        have hc3 : j * 3 + 2 < cur.size := by rw [HS.out]; have := HLO.out.2.1; omega
        obtain ⟨⟨v0, o0⟩, ⟨v1, o1⟩, ⟨v2, o2⟩, z0, z1, z2⟩ := cBlower_cells HG.out j hc3
        have HST := Lib.hid (cBlower_stepM hfil hc3 (by rw [marksBlower_length]; exact hlt))
        rw [marksBlower_get] at HST
        dsimp only at HST
        clear hfil hc3
        go_wp2
        go_roundw
        case rel => exact ⟨j + 1, _, by omega, by go_num, by go_num, (grown_setCell (grown_setCell (grown_setCell HGR.out _) _) _), (heap_setCell_same _ _ _ _ _ _ (heap_setCell_same _ _ _ _ _ _ (heap_setCell_same _ _ _ _ _ _ HG.out))), by unfold Hid; simp; exact HS.out, HST.out⟩
        case measure => simp [intOf]; omega
      · have hjn : j = n := by omega
        have HR : Hid (MarksBlower (.slice (some ⟨g, 0, none⟩) n c) lo n k w (.returned (.int .i64 (k + 3 * (j : Int)))) wr) := by
          subst hjn
          exact ⟨rfl, HGR.out, cBlower_ownM HG.out HLO.out.1 HLO.out.2.1 HLO.out.2.2.1 HS.out (marksBlower_length _ _) hfil⟩
        clear hfil hjn
        go_wp2
        go_ret
        exact HR.out

end Go.Proofs.Ytiilgeoahpnkpaa
