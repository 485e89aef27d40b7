/-
  More of what FnRoutes asks: where a carrier stops, the circles, and the routes as ways. No walk stands here.
-/
import Derived.Test.YtenjigifjkfiaaaRoutesMath
import Derived.Test.YtenjigifjkfiaaaCircle
import Derived.Test.YtenjigifjkfiaaaNetIsWay
namespace Go.Proofs.Ytenjigifjkfiaaa
open Go.RowKit

theorem run_fin {ts : List T3} {set : List Int} {to : Int} (f : Nat) (x : Int) {p : List Int × Int} (h : runF ts set to f x = some p) : finAt set to p.2 := by
  induction f generalizing x p with
  | zero => exact absurd h (by simp [runF])
  | succ f ih =>
    unfold runF at h
    by_cases hf : finAt set to x
    · rw [if_pos hf] at h
      injection h with h; subst h; exact hf
    · rw [if_neg hf] at h
      cases hr : runF ts set to f (nextAt ts set x) with
      | none => rw [hr] at h; exact absurd h (by simp)
      | some r =>
        rw [hr] at h
        injection h with h; subst h
        have := ih _ hr
        exact this
/-- A carrier that runs until it stops runs so to the station where it stops. -/
theorem run_same {ts : List T3} {set : List Int} (f : Nat) (x : Int) {l : List Int} {y : Int} (h : runF ts set (-1) f x = some (l, y)) : runF ts set y f x = some (l, y) := by
  induction f generalizing x l with
  | zero => exact absurd h (by simp [runF])
  | succ f ih =>
    have hy := run_fin (f + 1) x h
    unfold runF at h ⊢
    by_cases hf : finAt set (-1) x
    · rw [if_pos hf] at h
      injection h with h
      injection h with h1 h2
      subst h1; subst h2
      rw [if_pos (.inl rfl)]
    · rw [if_neg hf] at h
      cases hr : runF ts set (-1) f (nextAt ts set x) with
      | none => rw [hr] at h; exact absurd h (by simp)
      | some r =>
        obtain ⟨r1, r2⟩ := r
        rw [hr] at h
        injection h with h
        injection h with h1 h2
        simp only at h1 h2
        subst h2
        have hne : ¬ finAt set r2 x := by
          rintro (e | e)
          · subst e; exact hf hy
          · exact hf (.inr e)
        rw [if_neg hne, ih _ hr]
        show some (setAt set x :: r1, r2) = _
        rw [h1]
/-- The tubes through which a carrier runs are a way. -/
theorem run_way {s : Int} {ts : List T3} {set : List Int} (hset : setB s ts set = true) (to : Int) (f : Nat) (x : Int) (hx : stB s x = true) {p : List Int × Int} (h : runF ts set to f x = some p) : wayEnd ts p.1 x = some p.2 ∧ ∀ z ∈ p.1, stB ts.length z = true := by
  induction f generalizing x p with
  | zero => exact absurd h (by simp [runF])
  | succ f ih =>
    unfold runF at h
    by_cases hf : finAt set to x
    · rw [if_pos hf] at h
      injection h with h; subst h
      exact ⟨rfl, fun z hz => by simp at hz⟩
    · rw [if_neg hf] at h
      obtain ⟨k, _, hk, e, o⟩ := setB_at hset hx
      rcases o with o | ⟨j, t, o1, o2, o3, o4⟩
      · exact absurd (.inr (e.trans o)) hf
      · cases hr : runF ts set to f (nextAt ts set x) with
        | none => rw [hr] at h; exact absurd h (by simp)
        | some r =>
          rw [hr] at h
          injection h with h; subst h
          have hnx : nextAt ts set x = t.2.1 := nextAt_of (e.trans o1) o2
          rw [hnx] at hr
          obtain ⟨g1, g2⟩ := ih _ o4 hr
          have hj : j < ts.length := (List.getElem?_eq_some_iff.1 o2).1
          have hsa : setAt set x = (j : Int) := e.trans o1
          refine ⟨?_, fun z hz => ?_⟩
          · have := wayEnd_step (ts := ts) (way := setAt set x :: r.1) (k := 0) (f := x) (by simp) (t := t) (by simp [hsa, o2]) o3
            simp only [List.drop_zero, Nat.zero_add, List.drop_succ_cons] at this
            show wayEnd ts (setAt set x :: r.1) x = some r.2
            rw [this]; exact g1
          · rcases List.mem_cons.1 hz with rfl | hz
            · rw [hsa]; unfold stB; exact decide_eq_true (by omega)
            · exact g2 z hz
theorem circ_mem {s : Int} {ts : List T3} {set : List Int} {k i : Nat} : (i : Int) ∈ circ s ts set k ↔ i < k ∧ runF ts set (-1) s.toNat (i : Int) = none := by
  unfold circ
  rw [List.mem_map]
  constructor
  · rintro ⟨j, hj, e⟩
    rw [List.mem_filter, List.mem_range] at hj
    have : j = i := by omega
    subst this
    exact ⟨hj.1, by simpa using hj.2⟩
  · rintro ⟨h1, h2⟩
    exact ⟨i, by rw [List.mem_filter, List.mem_range]; exact ⟨h1, by simp [h2]⟩, rfl⟩
/-- A list ascends, from 0 on and below n. -/
def RisesR (l : List Int) (n : Int) : Prop := ∀ i (h : i < l.length), 0 ≤ l[i] ∧ l[i] < n ∧ ∀ (h0 : 0 < i), l[i - 1] < l[i]
theorem circ_rises (s : Int) (ts : List T3) (set : List Int) (k : Nat) : RisesR (circ s ts set k) (k : Int) := by
  have hp : (circ s ts set k).Pairwise (· < ·) := by
    unfold circ
    rw [List.pairwise_map]
    refine List.Pairwise.imp (fun {a b} h => ?_) (List.Pairwise.filter _ List.pairwise_lt_range)
    show (a : Int) < (b : Int)
    omega
  intro i hi
  have hm := List.getElem_mem hi
  have hb : 0 ≤ (circ s ts set k)[i] ∧ (circ s ts set k)[i] < (k : Int) := by
    generalize (circ s ts set k)[i] = z at hm
    unfold circ at hm
    rw [List.mem_map] at hm
    obtain ⟨j, hj, rfl⟩ := hm
    rw [List.mem_filter, List.mem_range] at hj
    have := hj.1
    omega
  exact ⟨hb.1, hb.2, fun h0 => List.pairwise_iff_getElem.1 hp (i - 1) i (by omega) hi (by omega)⟩
section
variable {s : Int} {ts : List T3} {set way : List Int}
theorem wayCode_ok (hset : setB s ts set = true) (hw : simpleB ts way = true) : wayCode s ts set way = 0 := by unfold wayCode; rw [if_pos hset, if_pos hw]
theorem setWay_ok (hset : setB s ts set = true) (hw : simpleB ts way = true) : setWayOf s ts set way = (setBy set (nds ts way way.length), 0) := by unfold setWayOf; rw [if_pos (wayCode_ok hset hw)]
theorem turns_ok (hset : setB s ts set = true) (hw : simpleB ts way = true) : ∃ k : Nat, k ≤ way.length ∧ turnsOf s ts set way = ((k : Int), 0) :=
  ⟨leftN set (nds ts way way.length), turns_most ts set way, by unfold turnsOf; rw [if_pos (wayCode_ok hset hw)]⟩
theorem turns_set (hset : setB s ts set = true) (hw : simpleB ts way = true) : turnsOf s ts (setBy set (nds ts way way.length)) way = (0, 0) := by
  unfold turnsOf; rw [if_pos (wayCode_ok (setBy_ok hset hw) hw), turns_none hset hw]; rfl
theorem setCode_two (hset : setB s ts set = true) {x y : Int} (hx : stB s x = true) (hy : stB s y = true) : setCode s ts set [x, y] = 0 := by
  rw [setCode_of hset]
  refine codeOf_ok (setB_parts hset).1 (fun k hk => ?_)
  rcases k with _ | _ | k
  · exact hx
  · exact hy
  · have : k + 1 + 1 < 2 := hk
    omega
theorem setCode_one (hset : setB s ts set = true) {x : Int} (hx : stB s x = true) : setCode s ts set [x] = 0 := by
  rw [setCode_of hset]
  refine codeOf_ok (setB_parts hset).1 (fun k hk => ?_)
  rcases k with _ | k
  · exact hx
  · have : k + 1 < 1 := hk
    omega
/-- The route of a way that has been set is the way. -/
theorem route_set (hset : setB s ts set = true) (hw : simpleB ts way = true) {q : Nat} (hq : way.length = q + 1) :
    routeOf s ts (setBy set (nds ts way way.length)) (frAt ts (way[0]'(by omega))) (toAt ts (way[q]'(by omega))) = (way, 0) := by
  have h2 := setBy_ok hset hw
  obtain ⟨hn, _, _⟩ := setB_parts hset
  have hfr : stB s (frAt ts (way[0]'(by omega))) = true := by
    obtain ⟨_, _, _, _, _, h4, h5⟩ := need_of hn hw (nds_mem (show 0 < way.length by omega))
    unfold stB; exact decide_eq_true ⟨h4, h5⟩
  have hrun := run_set hset hw hq q 0 (s.toNat + (q + 2)) (by omega) (by omega)
  rw [run_enough h2 hfr] at hrun
  have hto := run_end h2 _ _ _ hfr hrun
  simp only at hto
  unfold routeOf
  rw [if_pos (setCode_two h2 hfr hto), hrun]
  simp
theorem end_none (hset : setB s ts set = true) {x : Int} (hx : stB s x = true) (h : runF ts set (-1) s.toNat x = none) : endOf s ts set x = (0, 9) := by
  unfold endOf; rw [if_pos (setCode_one hset hx), h]
theorem end_some (hset : setB s ts set = true) {x : Int} (hx : stB s x = true) {l : List Int} {y : Int} (h : runF ts set (-1) s.toNat x = some (l, y)) :
    endOf s ts set x = (y, 0) ∧ stB s y = true ∧ setAt set y = -1 ∧ routeOf s ts set x y = (l, 0) ∧ wayEnd ts l x = some y ∧ tubesB ts.length l = true := by
  have hy := run_end hset _ _ _ hx h
  have hw := run_way hset _ _ _ hx h
  simp only at hy hw
  refine ⟨by unfold endOf; rw [if_pos (setCode_one hset hx), h], hy, ?_, ?_, hw.1, tubesB_good fun k hk => hw.2 _ (List.getElem_mem hk)⟩
  · rcases run_fin _ _ h with e | e
    · simp only at e
      unfold stB at hy
      have := of_decide_eq_true hy
      omega
    · exact e
  · unfold routeOf
    rw [if_pos (setCode_two hset hx hy), run_same _ _ h]
    simp
end
end Go.Proofs.Ytenjigifjkfiaaa
