/-
  What FnRoutes asks of ways and settings, as facts on lists: a set way keeps a setting valid, needs nothing to be turned, and is run through. No walk stands here.
-/
import Derived.Test.YtenjigifjkfiaaaTurnsFor
import Derived.Test.YtenjigifjkfiaaaRouteOf
namespace Go.Proofs.Ytenjigifjkfiaaa
open Go.RowKit

theorem setBy_cons (set : List Int) (p : Int × Int) (l : List (Int × Int)) : setBy set (p :: l) = setBy (set.set p.1.toNat p.2) l := rfl
theorem setBy_get (set : List Int) (l : List (Int × Int)) (i : Nat) (hi : i < set.length) : (∃ p ∈ l, p.1.toNat = i ∧ (setBy set l)[i]? = some p.2) ∨ (setBy set l)[i]? = set[i]? := by
  induction l generalizing set with
  | nil => exact .inr rfl
  | cons q l ih =>
    rw [setBy_cons]
    rcases ih (set.set q.1.toNat q.2) (by rw [List.length_set]; exact hi) with ⟨p, hp, he, hv⟩ | hv
    · exact .inl ⟨p, List.mem_cons_of_mem _ hp, he, hv⟩
    · by_cases e : q.1.toNat = i
      · refine .inl ⟨q, List.mem_cons_self, e, ?_⟩
        rw [hv, ← e, List.getElem?_set_self (by rw [e]; exact hi)]
      · exact .inr (by rw [hv, List.getElem?_set_ne e])
theorem setBy_hit (set : List Int) (l : List (Int × Int)) (hs : ∀ x ∈ l, ∀ y ∈ l, x.1.toNat = y.1.toNat → x = y) {p : Int × Int} (hp : p ∈ l) (hi : p.1.toNat < set.length) : (setBy set l)[p.1.toNat]? = some p.2 := by
  induction l generalizing set with
  | nil => exact absurd hp (by simp)
  | cons q l ih =>
    rw [setBy_cons]
    rcases setBy_get (set.set q.1.toNat q.2) l p.1.toNat (by rw [List.length_set]; exact hi) with ⟨r, hr, he, hv⟩ | hv
    · have := hs r (List.mem_cons_of_mem _ hr) p hp he
      subst this; exact hv
    · rcases List.mem_cons.1 hp with rfl | hp'
      · rw [hv, List.getElem?_set_self hi]
      · exact ih (set.set q.1.toNat q.2) (fun x hx y hy => hs x (List.mem_cons_of_mem _ hx) y (List.mem_cons_of_mem _ hy)) hp' (by rw [List.length_set]; exact hi)
/-- A need of a simple way: the tube and where it begins. -/
theorem need_of {s : Int} {ts : List T3} {way : List Int} (hn : netB s ts = true) (hw : simpleB ts way = true) {p : Int × Int} (hp : p ∈ nds ts way way.length) :
    ∃ (j : Nat) (t : T3), p.2 = (j : Int) ∧ ts[j]? = some t ∧ t.1 = p.1 ∧ 0 ≤ p.1 ∧ p.1 < s := by
  obtain ⟨_, _, _, hT⟩ := netB_parts hn
  unfold nds at hp
  rw [List.take_length, List.mem_map] at hp
  obtain ⟨z, hz, rfl⟩ := hp
  obtain ⟨k, hk, rfl⟩ := List.getElem_of_mem hz
  have hst := way_st rfl hw k hk
  unfold stB at hst
  have hst := of_decide_eq_true hst
  generalize way[k] = z at hst
  have hj : z.toNat < ts.length := by omega
  have hm := hT _ (List.getElem_mem hj)
  unfold tubeB at hm
  have hm := of_decide_eq_true hm
  have he : frAt ts z = (ts[z.toNat]).1 := by
    have := frAt_of (List.getElem?_eq_getElem hj)
    rwa [show ((z.toNat : Nat) : Int) = z by omega] at this
  exact ⟨z.toNat, ts[z.toNat], by show z = _; omega, List.getElem?_eq_getElem hj, he.symm, by show 0 ≤ frAt ts z; rw [he]; exact hm.1, by show frAt ts z < s; rw [he]; exact hm.2.1⟩
theorem setBy_ok {s : Int} {ts : List T3} {set way : List Int} (hset : setB s ts set = true) (hw : simpleB ts way = true) : setB s ts (setBy set (nds ts way way.length)) = true := by
  obtain ⟨hn, hl, hg⟩ := setB_parts hset
  refine setB_good hn (by rw [setBy_len]; exact hl) (fun i hi => ?_)
  have hi' : i < set.length := by rwa [setBy_len] at hi
  rcases setBy_get set (nds ts way way.length) i hi' with ⟨p, hp, he, hv⟩ | hv
  · rw [List.getElem?_eq_getElem hi] at hv
    injection hv with hv
    obtain ⟨j, t, h1, h2, h3, h4, _⟩ := need_of hn hw hp
    rw [hv, h1, okAt_hit h2, h3]
    simp; omega
  · rw [List.getElem?_eq_getElem hi, List.getElem?_eq_getElem hi'] at hv
    injection hv with hv
    rw [hv]; exact hg i hi'
theorem setBy_at {s : Int} {ts : List T3} {set way : List Int} (hset : setB s ts set = true) (hw : simpleB ts way = true) {p : Int × Int} (hp : p ∈ nds ts way way.length) : setAt (setBy set (nds ts way way.length)) p.1 = p.2 := by
  obtain ⟨hn, hl, _⟩ := setB_parts hset
  obtain ⟨_, _, _, _, _, h4, h5⟩ := need_of hn hw hp
  unfold setAt
  rw [setBy_hit set _ (fun x hx y hy he => ?_) hp (by omega)]
  · rfl
  · obtain ⟨_, _, _, _, _, hx0, _⟩ := need_of hn hw hx
    obtain ⟨_, _, _, _, _, hy0, _⟩ := need_of hn hw hy
    exact nds_same hw hx hy (by omega)
theorem turns_none {s : Int} {ts : List T3} {set way : List Int} (hset : setB s ts set = true) (hw : simpleB ts way = true) : leftN (setBy set (nds ts way way.length)) (nds ts way way.length) = 0 := by
  unfold leftN
  rw [List.countP_eq_zero]
  intro p hp
  unfold metB
  rw [setBy_at hset hw hp]
  simp
theorem turns_most (ts : List T3) (set way : List Int) : leftN set (nds ts way way.length) ≤ way.length := by
  have := List.countP_le_length (p := fun x => !(metB set x)) (l := nds ts way way.length)
  rw [nds_len (Nat.le_refl _)] at this
  exact this
theorem simple_next {ts : List T3} {way : List Int} (hw : simpleB ts way = true) {k : Nat} (hk : k + 1 < way.length) : toAt ts way[k] = frAt ts way[k + 1] := by
  have h := simpleB_steps hw (k + 1) hk
  unfold stepB stepV at h
  have e1 : way.getD (k + 1 - 1) 0 = way[k] := by simp [show k < way.length by omega]
  have e2 : way.getD (k + 1) 0 = way[k + 1] := by simp [hk]
  rw [e1, e2] at h
  simp only [Bool.and_eq_true, Bool.or_eq_true, beq_iff_eq] at h
  rcases h.2 with h | h
  · omega
  · exact h
theorem simple_last {ts : List T3} {way : List Int} (hw : simpleB ts way = true) {q : Nat} (hq : way.length = q + 1) {k : Nat} (hk : k < way.length) : ¬ frAt ts way[k] = toAt ts (way[q]'(by omega)) := by
  have h := hw
  rw [simpleB_end (simpleB_steps hw), endB_last hq (by omega)] at h
  simp only [Bool.not_eq_true'] at h
  have hn := hasB_mem h
  intro he
  apply hn
  unfold frs
  rw [List.take_length, List.mem_map]
  exact ⟨way[k], List.getElem_mem hk, he⟩
theorem nds_mem {ts : List T3} {way : List Int} {k : Nat} (hk : k < way.length) : (frAt ts way[k], way[k]) ∈ nds ts way way.length := by
  unfold nds
  rw [List.take_length, List.mem_map]
  exact ⟨way[k], List.getElem_mem hk, rfl⟩
/-- A carrier runs through a way that has been set. -/
theorem run_set {s : Int} {ts : List T3} {set way : List Int} (hset : setB s ts set = true) (hw : simpleB ts way = true) {q : Nat} (hq : way.length = q + 1) (d k f : Nat) (hk : k + d = q) (hf : d + 2 ≤ f) :
    runF ts (setBy set (nds ts way way.length)) (toAt ts (way[q]'(by omega))) f (frAt ts (way[k]'(by omega))) = some (way.drop k, toAt ts (way[q]'(by omega))) := by
  obtain ⟨hn, _, _⟩ := setB_parts hset
  induction d generalizing k f with
  | zero =>
    obtain ⟨f, rfl⟩ : ∃ g, f = g + 2 := ⟨f - 2, by omega⟩
    have hkq : k = q := by omega
    subst hkq
    have hkl : k < way.length := by omega
    have ha := setBy_at hset hw (nds_mem hkl)
    obtain ⟨j, t, h1, h2, _, _, _⟩ := need_of hn hw (nds_mem hkl)
    simp only at ha h1
    have hnf : ¬ finAt (setBy set (nds ts way way.length)) (toAt ts way[k]) (frAt ts way[k]) := by
      unfold finAt
      rw [ha]
      rintro (h | h)
      · exact simple_last hw hq hkl h
      · omega
    have hnx : nextAt ts (setBy set (nds ts way way.length)) (frAt ts way[k]) = toAt ts way[k] := by
      rw [nextAt_of (ha.trans h1) h2, h1, toAt_of h2]
    rw [runF, if_neg hnf, hnx, runF, if_pos (show finAt _ _ _ from .inl rfl), ha]
    show some (way[k] :: [], _) = _
    rw [List.drop_eq_getElem_cons hkl, List.drop_of_length_le (by omega)]
  | succ d ih =>
    obtain ⟨f, rfl⟩ : ∃ g, f = g + 1 := ⟨f - 1, by omega⟩
    have hkl : k < way.length := by omega
    have ha := setBy_at hset hw (nds_mem hkl)
    obtain ⟨j, t, h1, h2, _, _, _⟩ := need_of hn hw (nds_mem hkl)
    simp only at ha h1
    have hnf : ¬ finAt (setBy set (nds ts way way.length)) (toAt ts (way[q]'(by omega))) (frAt ts way[k]) := by
      unfold finAt
      rw [ha]
      rintro (h | h)
      · exact simple_last hw hq hkl h
      · omega
    have hnx : nextAt ts (setBy set (nds ts way way.length)) (frAt ts way[k]) = frAt ts (way[k + 1]'(by omega)) := by
      rw [nextAt_of (ha.trans h1) h2, ← simple_next hw (show k + 1 < way.length by omega), h1, toAt_of h2]
    rw [runF, if_neg hnf, hnx, ih (k + 1) f (by omega) (by omega), ha]
    show some (way[k] :: way.drop (k + 1), _) = _
    rw [List.drop_eq_getElem_cons hkl]
end Go.Proofs.Ytenjigifjkfiaaa
