/-
  The walks of the laws' own helpers that write marks into a slice of records 'Guest' and look for them again.
-/
import Derived.Test.YtkfeihnapcfkgaaDoorGuestRec
import Derived.Test.YtkfeihnapcfkgaaDoorMem
namespace Go.Proofs.YtkfeihnapcfkgaaDoor
open Go.RowKit

def marksGuest (k : Int) (n : Nat) : List TGuest := (List.range n).map fun (i : Nat) => (k + 2 * (i : Int), k + 2 * (i : Int) + 1)
theorem marksGuest_length (k : Int) (n : Nat) : (marksGuest k n).length = n := by simp [marksGuest]
theorem marksGuest_get (k : Int) (n i : Nat) (h : i < (marksGuest k n).length) : (marksGuest k n)[i] = (k + 2 * (i : Int), k + 2 * (i : Int) + 1) := by simp [marksGuest]
theorem cGuest_stepM {ts : List TGuest} {cur : Array Value} {k : Nat} (h : FilledR 2 cGuest ts cur k) (hs : k * 2 + 1 < cur.size) (hk : k < ts.length) : FilledR 2 cGuest ts ((cur.setIfInBounds (k * 2) (.int .i64 ts[k].1)).setIfInBounds (k * 2 + 1) (.int .i64 ts[k].2)) (k + 1) := by
  refine h.next cGuest_len hk (fun p hp => ?_) (fun j v hj => ?_)
  · rw [Array.getElem?_setIfInBounds_ne (by omega), Array.getElem?_setIfInBounds_ne (by omega)]
  · match j, hj with
    | 0, hj => obtain rfl : _ = v := Option.some.inj hj; simp [Array.getElem?_setIfInBounds]; omega
    | 1, hj => obtain rfl : _ = v := Option.some.inj hj; simp [Array.getElem?_setIfInBounds]; omega
    | j + 2, hj => simp [cGuest] at hj
theorem cGuest_ownM {w : World} {lo g n c : Nat} {e : TypeId} {ts : List TGuest} {cur : Array Value} (hg : w.heap[g]? = some (.cells cur e (0, 0))) (hlo : lo ≤ g) (hnc : n ≤ c) (hm : c ≤ maxLen) (hs : cur.size = c * 2) (hl : ts.length = n) (h : FilledR 2 cGuest ts cur n) :
    w.ownsRow lo e 2 (.slice (some ⟨g, 0, none⟩) n c) n (ts.flatMap cGuest) := by
  subst hl
  exact ⟨rflat_length cGuest_len ts, .inr ⟨g, c, cur, rfl, hlo, hg, hnc, hm, hs, rflat_take (by omega) cGuest_len ts cur.toList (by simp; omega) (fun i hi j v hj => by simpa using h i hi hi j v hj)⟩⟩
/-- A call marks a slice of its caller's own, and turns nothing else. -/
def MarksGuest (v : Value) (lo n : Nat) (k : Int) (w : World) (e : Ending) (w' : World) : Prop :=
  e = .returned (.int .i64 (k + 2 * (n : Int))) ∧ w.grownBy w' v.ownBlock ∧ w'.ownsRow lo 35 2 v n ((marksGuest k n).flatMap cGuest)

set_option maxHeartbeats 1000000 in
theorem markGuestS_any (a : Option Addr) (xs : List Value) (lo n c : Nat) (k : Int) (w : World) (hown : w.ownsRow lo 35 2 (.slice a n c) n xs) (hmax : n ≤ 1048577) (h0 : 0 ≤ k) (h1 : k ≤ 4000000000000000) :
    Calls Tryd.prog 33 #[.slice a n c, .int .i64 k] w (MarksGuest (.slice a n c) lo n k w) := by
  rcases hown.2 with ⟨hv, hz⟩ | ⟨g, cap, cur0, hv, hlo, hg, hnc, hcm, hcs, _⟩
  · injection hv with e1 e2 e3
    subst e1 e3
    have HZ := Lib.hid hz
    clear hz e2
    have HR : Hid (MarksGuest (.slice none n 0) lo n k w (.returned (.int .i64 k)) w) := by
      unfold Hid MarksGuest
      have := HZ.out
      subst this
      exact ⟨ret_int (by omega), grown_refl _ _, by simpa [marksGuest] using World.ownsRow_nil w lo 35 2⟩
    clear hown
    go_enter Tryd.func33, Tryd.ntmps33
    go_wp2
    go_loop [1, 5] (fun q i => ∃ j : Nat, j ≤ n ∧ i = .int .i64 j ∧ q = .int .i64 k) (fun _ _ => 0)
    case atStart => exact ⟨0, by omega, rfl, rfl⟩
    case round =>
      obtain ⟨j, hj, rfl, rfl⟩ := hrel
      have hlt : ¬ j < n := by rw [HZ.out]; omega
      go_wp2
      go_ret
      exact HR.out
  · injection hv with e1 e2 e3
    subst e1 e3
    clear e2 hown
    have HLO : Hid (lo ≤ g ∧ n ≤ c ∧ c ≤ maxLen ∧ cur0.size = c * 2) := ⟨hlo, hnc, hcm, hcs⟩
    have HG0 := Lib.hid hg
    clear hlo hnc hcm hcs hg
    go_enter Tryd.func33, Tryd.ntmps33
    go_wp2
    go_loopw [1, 5] (fun q i wr => ∃ (j : Nat) (cur : Array Value), j ≤ n ∧ i = .int .i64 j ∧ q = .int .i64 (k + 2 * (j : Int)) ∧ Hid (w.grownBy wr (some g)) ∧ Hid (wr.heap[g]? = some (.cells cur 35 (0, 0))) ∧ Hid (cur.size = c * 2) ∧ FilledR 2 cGuest (marksGuest k n) cur j) (fun _ i _ => n - (intOf i).toNat)
    case atStart => exact ⟨0, cur0, by omega, rfl, by go_num, grown_refl _ _, HG0, HLO.out.2.2.2, FilledR.zero _ _ _ _⟩
    case round =>
      obtain ⟨j, cur, hj, rfl, rfl, HGR, HG, HS, hfil⟩ := hrel
      by_cases hlt : j < n
      · have hk0 : (0 : Int) ≤ (j : Int) := by omega
        have hk1 : (j : Int) < (n : Int) := by omega
        have hc3 : j * 2 + 1 < cur.size := by rw [HS.out]; have := HLO.out.2.1; omega
        obtain ⟨⟨v0, o0⟩, ⟨v1, o1⟩, z0, z1⟩ := cGuest_cells HG.out j hc3
        have HST := Lib.hid (cGuest_stepM hfil hc3 (by rw [marksGuest_length]; exact hlt))
        rw [marksGuest_get] at HST
        dsimp only at HST
        clear hfil hc3
        go_wp2
        go_roundw
        case rel => exact ⟨j + 1, _, by omega, by go_num, by go_num, (grown_setCell (grown_setCell HGR.out _) _), (heap_setCell_same _ _ _ _ _ _ (heap_setCell_same _ _ _ _ _ _ HG.out)), by unfold Hid; simp; exact HS.out, HST.out⟩
        case measure => simp [intOf]; omega
      · have hjn : j = n := by omega
        have HR : Hid (MarksGuest (.slice (some ⟨g, 0, none⟩) n c) lo n k w (.returned (.int .i64 (k + 2 * (j : Int)))) wr) := by
          subst hjn
          exact ⟨rfl, HGR.out, cGuest_ownM HG.out HLO.out.1 HLO.out.2.1 HLO.out.2.2.1 HS.out (marksGuest_length _ _) hfil⟩
        clear hfil hjn
        go_wp2
        go_ret
        exact HR.out

set_option maxHeartbeats 1000000 in
theorem heldGuestS_any (a : Option Addr) (n c : Nat) (k : Int) (w : World) (hr : RR 2 cGuest w a (marksGuest k n)) (hmax : n ≤ 1048577) (h0 : 0 ≤ k) (h1 : k ≤ 4000000000000000) :
    Calls Tryd.prog 35 #[.slice a n c, .int .i64 k] w fun e w' => e = .returned (.int .i64 (k + 2 * (n : Int))) ∧ w = w' := by
  by_cases hz : n = 0
  · have HZ := Lib.hid hz
    have HR : Hid (k = k + 2 * (n : Int)) := by unfold Hid; omega
    clear hz hr
    go_enter Tryd.func35, Tryd.ntmps35
    go_wp2
    go_loop [1, 5] (fun q i => ∃ j : Nat, j ≤ n ∧ i = .int .i64 j ∧ q = .int .i64 k) (fun _ _ => 0)
    case atStart => exact ⟨0, by omega, rfl, rfl⟩
    case round =>
      obtain ⟨j, hj, rfl, rfl⟩ := hrel
      have hlt : ¬ j < n := by rw [HZ.out]; omega
      go_wp2
      go_ret
      exact ⟨ret_int HR.out, rfl⟩
  · obtain ⟨b, off, rfl, hb, hc⟩ := hr.addr (by rw [marksGuest_length]; omega)
    have HC := Lib.hid hc
    clear hc hr
    go_enter Tryd.func35, Tryd.ntmps35
    go_wp2
    go_loop [1, 5] (fun q i => ∃ j : Nat, j ≤ n ∧ i = .int .i64 j ∧ q = .int .i64 (k + 2 * (j : Int))) (fun _ i => n - (intOf i).toNat)
    case atStart => exact ⟨0, by omega, rfl, by go_num⟩
    case round =>
      obtain ⟨j, hj, rfl, rfl⟩ := hrel
      by_cases hlt : j < n
      · obtain ⟨x0, x1⟩ := cGuest_at HC.out j (by rw [marksGuest_length]; exact hlt)
        rw [marksGuest_get] at x0 x1
        have hk0 : (0 : Int) ≤ (j : Int) := by omega
        have hk1 : (j : Int) < (n : Int) := by omega
        go_wp2
        go_round
        case rel => exact ⟨j + 1, by omega, by go_num, by go_num⟩
        case measure => simp [intOf]; omega
      · have hjn : j = n := by omega
        have HR : Hid (k + 2 * (j : Int) = k + 2 * (n : Int)) := by unfold Hid; omega
        clear hjn
        go_wp2
        go_ret
        exact ⟨ret_int HR.out, rfl⟩
end Go.Proofs.YtkfeihnapcfkgaaDoor
