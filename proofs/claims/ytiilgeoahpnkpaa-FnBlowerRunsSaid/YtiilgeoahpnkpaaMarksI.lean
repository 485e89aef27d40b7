/-
  The walks of the laws' own helpers that write marks into a slice of numbers and look for them again: markInt64S, heldInt64S.
-/
import Derived.Test.YtiilgeoahpnkpaaIntList
namespace Go.Proofs.Ytiilgeoahpnkpaa
open Go.RowKit

/-- A call marks a slice of numbers of its caller's own, and turns nothing else. -/
def MarksI (v : Value) (lo n : Nat) (k : Int) (w : World) (e : Ending) (w' : World) : Prop :=
  e = .returned (.int .i64 (k + (n : Int))) ∧ w.grownBy w' v.ownBlock ∧ w'.ownsRow lo 2 1 v n ((marksI k n).map (Value.int .i64))
theorem FilledI.stepM {ns : List Int} {cur : Array Value} {k : Nat} (h : FilledI ns cur k) (hs : k < cur.size) (hk : k < ns.length) : FilledI ns (cur.setIfInBounds k (.int .i64 ns[k])) (k + 1) := by
  intro i hi hik
  by_cases e : i = k
  · subst e
    simp [Array.getElem?_setIfInBounds]; omega
  · rw [Array.getElem?_setIfInBounds_ne (by omega)]
    exact h i hi (by omega)
theorem rowI_ownM {w : World} {lo g n c : Nat} {e : TypeId} {ns : List Int} {cur : Array Value} (hg : w.heap[g]? = some (.cells cur e (0, 0))) (hlo : lo ≤ g) (hnc : n ≤ c) (hm : c ≤ maxLen) (hs : cur.size = c * 1) (hl : ns.length = n) (h : FilledI ns cur n) :
    w.ownsRow lo e 1 (.slice (some ⟨g, 0, none⟩) n c) n (ns.map (Value.int .i64)) := by
  subst hl
  refine ⟨by simp, .inr ⟨g, c, cur, rfl, hlo, hg, hnc, hm, hs, ?_⟩⟩
  apply List.ext_getElem?
  intro j
  by_cases hj : j < ns.length
  · rw [List.getElem?_take_of_lt (by omega), ints_cell ns j hj]
    simpa using h j hj hj
  · rw [List.getElem?_eq_none (by simp; omega), List.getElem?_eq_none (by simp; omega)]

set_option maxHeartbeats 1000000 in
theorem markInt64S_any (a : Option Addr) (xs : List Value) (lo n c : Nat) (k : Int) (w : World) (hown : w.ownsRow lo 2 1 (.slice a n c) n xs) (hmax : n ≤ 1048577) (h0 : 0 ≤ k) (h1 : k ≤ 4000000000000000) :
    Calls Try.prog 52 #[.slice a n c, .int .i64 k] w (MarksI (.slice a n c) lo n k w) := by
  rcases hown.2 with ⟨hv, hz⟩ | ⟨g, cap, cur0, hv, hlo, hg, hnc, hcm, hcs, _⟩
  · injection hv with e1 e2 e3
    subst e1 e3
    have HZ := Lib.hid hz
    clear hz e2
    have HR : Hid (MarksI (.slice none n 0) lo n k w (.returned (.int .i64 k)) w) := by
      unfold Hid MarksI
      have := HZ.out
      subst this
      exact ⟨ret_int (by omega), grown_refl _ _, by simpa [marksI] using World.ownsRow_nil w lo 2 1⟩
    clear hown
    go_enter Try.func52, Try.ntmps52
    go_wp2
    go_loop [1, 5] (fun q i => ∃ j : Nat, j ≤ n ∧ i = .int .i64 j ∧ q = .int .i64 k) (fun _ _ => 0)
    case atStart => exact ⟨0, by omega, rfl, rfl⟩
    case round =>
      obtain ⟨j, hj, rfl, rfl⟩ := hrel
      have hlt : ¬ j < n := by rw [HZ.out]; omega
      go_wp2
      go_ret
      exact HR.out
  · injection hv with e1 e2 e3
    subst e1 e3
    clear e2 hown
    have HLO : Hid (lo ≤ g ∧ n ≤ c ∧ c ≤ maxLen ∧ cur0.size = c * 1) := ⟨hlo, hnc, hcm, hcs⟩
    have HG0 := Lib.hid hg
    clear hlo hnc hcm hcs hg
    go_enter Try.func52, Try.ntmps52
    go_wp2
    go_loopw [1, 5] (fun q i wr => ∃ (j : Nat) (cur : Array Value), j ≤ n ∧ i = .int .i64 j ∧ q = .int .i64 (k + (j : Int)) ∧ Hid (w.grownBy wr (some g)) ∧ Hid (wr.heap[g]? = some (.cells cur 2 (0, 0))) ∧ Hid (cur.size = c * 1) ∧ FilledI (marksI k n) cur j) (fun _ i _ => n - (intOf i).toNat)
    case atStart => exact ⟨0, cur0, by omega, rfl, by go_num, grown_refl _ _, HG0, HLO.out.2.2.2, fun _ _ h => by omega⟩
    case round =>
      obtain ⟨j, cur, hj, rfl, rfl, HGR, HG, HS, hfil⟩ := hrel
      by_cases hlt : j < n
      · have hk0 : (0 : Int) ≤ (j : Int) := by omega
        have hk1 : (j : Int) < (n : Int) := by omega
        have hc3 : j < cur.size := by rw [HS.out]; have := HLO.out.2.1; omega
        have HST := Lib.hid (hfil.stepM hc3 (by rw [marksI_length]; exact hlt))
        rw [marksI_get] at HST
        have o1 : wr.cell? ⟨g, j, none⟩ = some cur[j] := by rw [cell_of_row wr _ _ cur _ (0, 0) HG.out]; exact Array.getElem?_eq_getElem _
        generalize cur[j] = o at o1
        have z1 := frozen_of_row wr g j cur _ HG.out
        clear hfil hc3
        go_wp2
        go_roundw
        case rel => exact ⟨j + 1, _, by omega, by go_num, by go_num, grown_setCell HGR.out _, heap_setCell_same _ _ _ _ _ _ HG.out, by unfold Hid; simp; exact (HS.out.trans (by omega)), HST.out⟩
        case measure => simp [intOf]; omega
      · have hjn : j = n := by omega
        have HR : Hid (MarksI (.slice (some ⟨g, 0, none⟩) n c) lo n k w (.returned (.int .i64 (k + (j : Int)))) wr) := by
          subst hjn
          exact ⟨rfl, HGR.out, rowI_ownM HG.out HLO.out.1 HLO.out.2.1 HLO.out.2.2.1 HS.out (marksI_length _ _) hfil⟩
        clear hfil hjn
        go_wp2
        go_ret
        exact HR.out

set_option maxHeartbeats 1000000 in
theorem heldInt64S_any (a : Option Addr) (n c : Nat) (k : Int) (w : World) (hr : RI w a (marksI k n)) (hmax : n ≤ 1048577) (h0 : 0 ≤ k) (h1 : k ≤ 4000000000000000) :
    Calls Try.prog 53 #[.slice a n c, .int .i64 k] w fun e w' => e = .returned (.int .i64 (k + (n : Int))) ∧ w = w' := by
  by_cases hz : n = 0
  · have HZ := Lib.hid hz
    have HR : Hid (k = k + (n : Int)) := by unfold Hid; omega
    clear hz hr
    go_enter Try.func53, Try.ntmps53
    go_wp2
    go_loop [1, 5] (fun q i => ∃ j : Nat, j ≤ n ∧ i = .int .i64 j ∧ q = .int .i64 k) (fun _ _ => 0)
    case atStart => exact ⟨0, by omega, rfl, rfl⟩
    case round =>
      obtain ⟨j, hj, rfl, rfl⟩ := hrel
      have hlt : ¬ j < n := by rw [HZ.out]; omega
      go_wp2
      go_ret
      exact ⟨ret_int HR.out, rfl⟩
  · obtain ⟨b, off, rfl, hb, hc⟩ := hr.addr (by rw [marksI_length]; omega)
    have HC := Lib.hid hc
    clear hc hr
    go_enter Try.func53, Try.ntmps53
    go_wp2
    go_loop [1, 5] (fun q i => ∃ j : Nat, j ≤ n ∧ i = .int .i64 j ∧ q = .int .i64 (k + (j : Int))) (fun _ i => n - (intOf i).toNat)
    case atStart => exact ⟨0, by omega, rfl, by go_num⟩
    case round =>
      obtain ⟨j, hj, rfl, rfl⟩ := hrel
      by_cases hlt : j < n
      · have x1 := HC.out j (by rw [marksI_length]; exact hlt)
        rw [marksI_get] at x1
        have hk0 : (0 : Int) ≤ (j : Int) := by omega
        have hk1 : (j : Int) < (n : Int) := by omega
        go_wp2
        go_round
        case rel => exact ⟨j + 1, by omega, by go_num, by go_num⟩
        case measure => simp [intOf]; omega
      · have hjn : j = n := by omega
        have HR : Hid (k + (j : Int) = k + (n : Int)) := by unfold Hid; omega
        clear hjn
        go_wp2
        go_ret
        exact ⟨ret_int HR.out, rfl⟩
theorem own_RI {w : World} {lo n c : Nat} {a : Option Addr} {e : TypeId} {ns : List Int} (hn : Hid (ns.length = n)) (h : w.ownsRow lo e 1 (.slice a n c) n (ns.map (Value.int .i64))) : RI w a ns := by
  rcases h.2 with ⟨hv, hz⟩ | ⟨g, cap, cur, hv, _, hg, _, _, _, ht⟩
  · left
    exact List.eq_nil_of_length_eq_zero (by rw [hn.out]; exact hz)
  · injection hv with h1 h2 h3
    refine .inr ⟨g, 0, h1, fun i hi => ?_⟩
    have hc := cell_of_row w g (0 + i) cur e (0, 0) hg
    rw [hc]
    have h4 := ints_cell ns i hi
    rw [← ht, List.getElem?_take_of_lt (by rw [hn.out] at hi; omega)] at h4
    simpa using h4
/-- A function hands back a list in memory of its own, and a number. -/
def GivesL (r : List Int × Int) (w : World) (e : Ending) (w' : World) : Prop :=
  Below w.heap.size w w' ∧ ∃ ao cap, e = .returned (.tuple #[.slice ao r.1.length cap, .int .i64 r.2]) ∧ w'.ownsRow w.heap.size 2 1 (.slice ao r.1.length cap) r.1.length (r.1.map (Value.int .i64))
theorem GivesL.elim {ws : List Int} {rc : Int} {m : Nat} {w w' : World} {e : Ending} (hm : Hid (ws.length = m)) (h : GivesL (ws, rc) w e w') :
    ∃ ao cap, e = .returned (.tuple #[.slice ao m cap, .int .i64 rc]) ∧ Below w.heap.size w w' ∧ w'.ownsRow w.heap.size 2 1 (.slice ao m cap) m (ws.map (Value.int .i64)) := by
  have := hm.out
  subst this
  obtain ⟨h1, ao, cap, h2, h3⟩ := h
  exact ⟨ao, cap, h2, h1, h3⟩
theorem givesL_of {r : List Int × Int} {l : List Int} {c : Int} {w w' : World} {ao : Option Addr} {cap i : Nat} (h : r = (l, c)) (hb : Below w.heap.size w w') (hl : l.length = i) (ho : w'.ownsRow w.heap.size 2 1 (.slice ao i cap) i (l.map (Value.int .i64))) :
    GivesL r w (.returned (.tuple #[.slice ao i cap, .int .i64 c])) w' := by
  subst hl; subst h
  exact ⟨hb, ao, cap, rfl, ho⟩
theorem givesL_nil {r : List Int × Int} {c : Int} {w w' : World} (h : r = ([], c)) (hb : Below w.heap.size w w') : GivesL r w (.returned (.tuple #[.slice none 0 0, .int .i64 c])) w' :=
  givesL_of h hb rfl (World.ownsRow_nil _ _ _ _)
end Go.Proofs.Ytiilgeoahpnkpaa
