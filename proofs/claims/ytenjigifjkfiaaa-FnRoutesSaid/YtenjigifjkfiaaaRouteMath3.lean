/-
  Small facts for the law on routes, and a2Same.
-/
import Derived.Test.YtenjigifjkfiaaaRoutesMath2
import Derived.Test.YtenjigifjkfiaaaA2Walk
import Derived.Test.YtenjigifjkfiaaaA2List
import Derived.Test.YtenjigifjkfiaaaImplIsWay
namespace Go.Proofs.Ytenjigifjkfiaaa
open Go.RowKit

theorem own_capR {w : World} {lo n c : Nat} {a : Option Addr} {e : TypeId} {size : Nat} {xs : List Value} (h : w.ownsRow lo e size (.slice a n c) n xs) : n ≤ c := by
  rcases h.2 with ⟨hv, h0⟩ | ⟨g, cap, cur, hv, _, _, hnc, _⟩
  · omega
  · injection hv with _ _ h3
    omega
theorem rowO_RTR {w : World} {lo m c : Nat} {a : Option Addr} {e : TypeId} {ts : List T3} (hn : Hid (ts.length = m)) (h : w.ownsRow lo e 3 (.slice a m c) m (flat ts)) : RT w a ts := by
  have := hn.out
  subst this
  obtain ⟨a', cap, hv, hr⟩ := own_RT h
  injection hv with h1 h2 h3
  rw [h1]
  exact hr
theorem rises_of {l : List Int} {m : Int} (h : RisesR l m) : Rises l m :=
  ⟨fun k hk => ⟨(h k hk).1, (h k hk).2.1⟩, fun k hk => (h (k + 1) hk).2.2 (by omega)⟩
theorem circle_ok {S : Nat} {ts : List T3} {set : List Int} (h : setB (S : Int) ts set = true) : circleOf (S : Int) ts set = (circ (S : Int) ts set S, 0) := by
  unfold circleOf
  rw [if_pos h, Int.toNat_natCast]
theorem circ_has {S : Nat} {ts : List T3} {set : List Int} {i : Nat} (hi : i < S) : hasA (circ (S : Int) ts set S) (i : Int) = (runF ts set (-1) S (i : Int)).isNone := by
  have := circ_mem (s := (S : Int)) (ts := ts) (set := set) (k := S) (i := i)
  rw [Int.toNat_natCast] at this
  cases h : runF ts set (-1) S (i : Int) with
  | none => exact decide_eq_true (this.2 ⟨hi, h⟩)
  | some p => exact decide_eq_false (fun hm => by rw [(this.1 hm).2] at h; cases h)
theorem isWay_ok {s : Int} {n : Nat} {ts : List T3} {set l : List Int} {x y : Int} (hset : setB s ts set = true) (hn : ts.length = n) (hx : stB s x = true) (hy : stB s y = true) (h1 : wayEnd ts l x = some y) (h2 : tubesB ts.length l = true) : isWayOf s ts n l x y = (true, 0) := by
  have hc := setCode_two hset hx hy
  rw [setCode_of hset] at hc
  unfold isWayOf
  rw [hn] at h2
  rw [if_pos hc, if_pos h2]
  unfold isWayB
  rw [h1]
  simp
theorem way_stR {ts : List T3} {way : List Int} (h : simpleB ts way = true) (k : Nat) (hk : k < way.length) : stB ts.length way[k] = true := by
  unfold simpleB at h
  rw [Bool.and_eq_true] at h
  exact stepB_st hk (of_decide_eq_true h.1 k hk)
theorem st_get {ts : List T3} {x : Int} (h : stB ts.length x = true) : ∃ (j : Nat) (t : T3), x = (j : Int) ∧ ts[j]? = some t ∧ ∃ hj : j < ts.length, ts[j] = t := by
  unfold stB at h
  have h9 := of_decide_eq_true h
  refine ⟨x.toNat, ts[x.toNat]'(by omega), by omega, List.getElem?_eq_getElem (by omega), by omega, rfl⟩
theorem a2Same_yes (a b : Option Addr) (l : List Int) (n ca cb : Nat) (w : World) (hn : Hid (l.length = n)) (ha : RI w a l) (hb : RI w b l) (hmax : n ≤ 1048576) :
    Calls Try.prog 16 #[.slice a n ca, .slice b n cb] w fun e w' => e = .returned (.bool true) ∧ ∃ q, w' = w.drewN q := by
  have HA := Lib.hid ha
  have HB := Lib.hid hb
  clear ha hb
  go_enter Try.func16, Try.ntmps16
  go_wp2
  go_loopw [5] (fun i wr => ∃ k q : Nat, k ≤ n ∧ i = .int .i64 (k : Int) ∧ wr = w.drewN q) (fun i _ => n - (intOf i).toNat)
  case atStart => exact ⟨0, 0, by omega, rfl, rfl⟩
  case round =>
    obtain ⟨k, q, hk, rfl, rfl⟩ := hrel
    by_cases hlt : k < n
    · have hka : k < l.length := by rw [hn.out]; exact hlt
      obtain ⟨b1, o1, rfl, _, x1⟩ := HA.out.at_ k hka
      obtain ⟨b2, o2, rfl, _, x2⟩ := HB.out.at_ k hka
      have hk0 : (0 : Int) ≤ (k : Int) := by omega
      have hk1 : (k : Int) < (n : Int) := by omega
      generalize l[k] = t at x1 x2
      go_wp2_with fail
      go_quiet (fail)
      go_wp2
      go_roundw
      case rel => exact ⟨k + 1, _, by omega, by go_num, rfl⟩
      case measure => simp [intOf]; omega
    · go_wp2
      go_ret
      exact ⟨rfl, q, rfl⟩
end Go.Proofs.Ytenjigifjkfiaaa
