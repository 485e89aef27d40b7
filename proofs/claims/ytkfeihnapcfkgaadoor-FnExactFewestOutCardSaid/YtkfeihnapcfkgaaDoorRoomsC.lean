/-
  CanGo and GoOne: the program's.
-/
import Derived.Test.YtkfeihnapcfkgaaDoorRoomsB
namespace Go.Proofs.YtkfeihnapcfkgaaDoor
open Go.RowKit

set_option maxHeartbeats 2000000 in
theorem implCanGo_any (w : World) {b0 o0 n0 c0 : Nat} (l0 : List Int) (hn0 : Hid (l0.length = n0)) (h0 : RI w (some ⟨b0, o0, none⟩) l0) (hs0 : n0 ≤ 1048576) (_wf0 : Hid (∀ k ∈ l0, (Lit.int .i64 k).wf = true)) {a1 : Option Addr} {n1 c1 : Nat} (ts1 : List TGuest) (hn1 : Hid (ts1.length = n1)) (h1 : RR 2 cGuest w a1 ts1) (hs1 : n1 ≤ 1048576) (_wf1 : Hid (∀ t ∈ ts1, wfGuest t)) (hT : BitTab w) :
    Calls Tryd.prog 14 #[.slice (some ⟨b0, o0, none⟩) n0 c0, .slice a1 n1 c1] w (GivesIs 2 (canOf l0 ts1) w) := by
  have OK := checkRooms_any b0 o0 a1 l0 ts1 n0 n1 c0 c1 w hn0 hn1 h0 h1 hs0 hs1
  have GO : Hid (∀ W, Below w.heap.size w W → 0 < n0 → n1 ≤ 8 → Pl l0 → guB n0 ts1 = true → Calls Tryd.prog 45 #[.slice (some ⟨b0, o0, none⟩) n0 c0, .slice a1 n1 c1] W fun e w' => e = .returned (.int .u64 ((setN (canN l0 ts1) n1 : Nat) : Int)) ∧ Below W.heap.size W w') := fun W h h2 h8 hp hg => goers_any b0 o0 a1 l0 ts1 n0 n1 c0 c1 W hn0 hn1 (h0.below h) (h1.below h) h2 hs0 h8 hp hg
  have HT : Hid (∀ W, Below w.heap.size w W → BitTab W) := fun W h => hT.below h
  clear h0 h1 hT
  cases hv : roB l0 ts1 with
  | false =>
    have HC : rcode l0 ts1 = 1 := by unfold rcode; rw [hv]; rfl
    rw [HC] at OK
    have HR := Lib.hid (canOf_bad hv)
    clear hv HC
    go_enter Tryd.func14, Tryd.ntmps14
    go_wp2_with (go_at_call 43; refine OK.mono ?_; rintro e w1 ⟨rfl, hb1⟩)
    go_ret2
    exact givesIs_nil HR.out hb1
  | true =>
    have HC : rcode l0 ts1 = 0 := by unfold rcode; rw [hv]; rfl
    rw [HC] at OK
    have HR : Hid (canOf l0 ts1 = (filtN (canN l0 ts1) n1, 0)) := by unfold Hid; rw [canOf_good hv, hn1.out]
    obtain ⟨h4, h2, h3, _⟩ := roB_of hv
    rw [hn0.out] at h3
    rw [hn0.out, hn1.out] at h4
    have HP := Lib.hid h2
    have HG := Lib.hid h3
    have H0 : Hid (0 < n0) := by unfold Hid; omega
    have H8 : Hid (n1 ≤ 8) := by unfold Hid; omega
    have ME : Hid (∀ W, Below w.heap.size w W → Calls Tryd.prog 46 #[.int .u64 ((setN (canN l0 ts1) n1 : Nat) : Int)] W fun e w' => Below W.heap.size W w' ∧ ∃ ao cap, e = .returned (.slice ao (filtN (canN l0 ts1) n1).length cap) ∧ w'.ownsRow W.heap.size 2 1 (.slice ao (filtN (canN l0 ts1) n1).length cap) (filtN (canN l0 ts1) n1).length ((filtN (canN l0 ts1) n1).map (Value.int .i64))) := fun W h => members_any (canN l0 ts1) n1 W (by have := H8.out; omega) (HT.out W h)
    clear hv h2 h3 h4 HC
    generalize setN (canN l0 ts1) n1 = y at GO ME
    generalize filtN (canN l0 ts1) n1 = cl at HR ME
    go_enter Tryd.func14, Tryd.ntmps14
    go_wp2_with (first | (go_at_call 43; refine OK.mono ?_; rintro e w1 ⟨rfl, hw1⟩) | (go_at_call 45; refine (GO.out _ hw1 H0.out H8.out HP.out HG.out).mono ?_; rintro e w2 ⟨rfl, hw2⟩) | (go_at_call 46; refine (ME.out _ (two_worlds hw1 hw2)).mono ?_; rintro e w3 ⟨hw3, ao, cap, rfl, ho⟩))
    have HB3 := Lib.hid (two_worlds (two_worlds hw1 hw2) hw3)
    have HO := Lib.hid (own_lo ho (two_worlds hw1 hw2).size)
    clear hw1 hw2 hw3 ho
    go_wp2
    go_ret2
    exact givesIs_of HR.out HB3.out rfl HO.out

def goneG (t : TGuest) : TGuest := (t.2, t.2)
def goneL (ts : List TGuest) (k : Nat) : List TGuest := ts.set k (goneG (ts.getD k (0, 0)))
def goOf (rs : List Int) (ts : List TGuest) (k : Int) : List TGuest × Int :=
  if roB rs ts = true then
    if inB k 0 ((ts.length : Int) - 1) = true then
      if resG (ts.getD k.toNat (0, 0)) = true then ([], 6)
      else if canN rs ts k.toNat = true then (goneL ts k.toNat, 0) else ([], 5)
    else ([], 2)
  else ([], 1)
theorem goOf_len (rs : List Int) (ts : List TGuest) (k : Int) (h : ts.length ≤ 1048576) : (goOf rs ts k).1.length ≤ 1048576 := by
  unfold goOf
  split
  · split
    · split
      · simp
      · split
        · unfold goneL; simp only [List.length_set]; exact h
        · simp
    · simp
  · simp
theorem goOf_bad {rs : List Int} {ts : List TGuest} (k : Int) (h : roB rs ts = false) : goOf rs ts k = ([], 1) := by unfold goOf; rw [h]; rfl
theorem goOf_range {rs : List Int} {ts : List TGuest} {k : Int} {m : Nat} (h : roB rs ts = true) (hm : ts.length = m) (h2 : inB k 0 ((m : Int) - 1) = false) : goOf rs ts k = ([], 2) := by unfold goOf; rw [if_pos h, hm, h2]; rfl
theorem goOf_in {rs : List Int} {ts : List TGuest} {k m : Nat} (h : roB rs ts = true) (hm : ts.length = m) (h2 : k < m) : goOf rs ts k = if resG (ts.getD k (0, 0)) = true then ([], 6) else if canN rs ts k = true then (goneL ts k, 0) else ([], 5) := by
  unfold goOf
  rw [if_pos h, hm, inB_yes (by omega), if_pos rfl, Int.toNat_natCast]
end Go.Proofs.YtkfeihnapcfkgaaDoor
