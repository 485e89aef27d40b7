/-
  A walk from station to station that marks what it has seen: plain facts on lists.
-/
import Derived.Test.YtbndminegokffaaReachMath
import Derived.Test.YtbndminegokffaaSortInts
import Derived.Test.YtbndminegokffaaTubesFromBy
namespace Go.Proofs.Ytbndminegokffaa
open Go.RowKit

/-- What a visit to v makes of the list r of what has been seen. -/
structure Vis (ts : List T3) (S v : Nat) (r r' : List Nat) : Prop where
  sub : ∀ x ∈ r, x ∈ r'
  has : v ∈ r'
  nodup : r'.Nodup
  bound : ∀ x ∈ r', x < S
  sound : ∀ x ∈ r', x ∈ r ∨ Rch ts (-1) x v
  closed : ∀ x ∈ r', x ∈ r ∨ ∀ y, Ed ts (-1) x y → y ∈ r'
theorem Vis.seen {ts : List T3} {S v : Nat} {r : List Nat} (hd : r.Nodup) (hb : ∀ x ∈ r, x < S) (h : v ∈ r) : Vis ts S v r r :=
  ⟨fun _ h => h, h, hd, hb, fun _ h => .inl h, fun _ h => .inl h⟩
/-- Half way: v is marked, the first k of its tubes have been followed. -/
structure VisK (ts : List T3) (S v : Nat) (l : List Int) (r : List Nat) (k : Nat) (r' : List Nat) : Prop where
  sub : ∀ x ∈ r ++ [v], x ∈ r'
  nodup : r'.Nodup
  bound : ∀ x ∈ r', x < S
  sound : ∀ x ∈ r', x ∈ r ∨ Rch ts (-1) x v
  closed : ∀ x ∈ r', x ∈ r ∨ x = v ∨ ∀ y, Ed ts (-1) x y → y ∈ r'
  done : ∀ j (h : j < l.length), j < k → ∀ i (hi : i < ts.length), l[j] = (i : Int) → ∀ y : Nat, ts[i].2.1 = (y : Int) → y ∈ r'
theorem Rch.tail {ts : List T3} {wo : Int} {x u v : Nat} (he : Ed ts wo v u) (h : Rch ts wo x u) : Rch ts wo x v := .step he h
theorem VisK.start {ts : List T3} {S v : Nat} {l : List Int} {r : List Nat} (hd : r.Nodup) (hb : ∀ x ∈ r, x < S) (hv : v < S) (h : ¬ v ∈ r) : VisK ts S v l r 0 (r ++ [v]) where
  sub _ h := h
  nodup := by
    rw [List.nodup_append]
    exact ⟨hd, by simp, fun a ha b hb e => by rw [List.mem_singleton] at hb; subst hb; subst e; exact h ha⟩
  bound x hx := by
    rcases List.mem_append.1 hx with hx | hx
    · exact hb x hx
    · rw [List.mem_singleton] at hx; omega
  sound x hx := by
    rcases List.mem_append.1 hx with hx | hx
    · exact .inl hx
    · rw [List.mem_singleton] at hx; subst hx; exact .inr .here
  closed x hx := by
    rcases List.mem_append.1 hx with hx | hx
    · exact .inl hx
    · rw [List.mem_singleton] at hx; exact .inr (.inl hx)
  done j _ hj := by omega
theorem VisK.step {ts : List T3} {S v u i k : Nat} {l : List Int} {r r' r'' : List Nat} (h : VisK ts S v l r k r') (hk : k < l.length) (hi : i < ts.length) (hl : l[k] = (i : Int)) (e1 : ts[i].1 = (v : Int)) (e2 : ts[i].2.1 = (u : Int)) (hv : Vis ts S u r' r'') : VisK ts S v l r (k + 1) r'' where
  sub x hx := hv.sub x (h.sub x hx)
  nodup := hv.nodup
  bound := hv.bound
  sound x hx := by
    rcases hv.sound x hx with hx | hx
    · exact h.sound x hx
    · exact .inr (hx.tail ⟨i, hi, by omega, e1, e2⟩)
  closed x hx := by
    rcases hv.closed x hx with hx | hx
    · rcases h.closed x hx with hx | hx | hx
      · exact .inl hx
      · exact .inr (.inl hx)
      · exact .inr (.inr fun y hy => hv.sub y (hx y hy))
    · exact .inr (.inr hx)
  done j hj hjk i' hi' hli y hy := by
    by_cases e : j = k
    · subst e
      have : i' = i := by have := hli.symm.trans hl; omega
      subst this
      have : y = u := by omega
      subst this
      exact hv.has
    · exact hv.sub y (h.done j hj (by omega) i' hi' hli y hy)
theorem VisK.finish {ts : List T3} {S v n : Nat} {r r' : List Nat} (hn : ts.length = n) (h : VisK ts S v (fromL ts n (v : Int)) r (fromL ts n (v : Int)).length r') : Vis ts S v r r' where
  sub x hx := h.sub x (List.mem_append_left _ hx)
  has := h.sub v (List.mem_append_right _ (List.mem_singleton.2 rfl))
  nodup := h.nodup
  bound := h.bound
  sound := h.sound
  closed x hx := by
    rcases h.closed x hx with hx | hx | hx
    · exact .inl hx
    · subst hx
      refine .inr fun y hy => ?_
      obtain ⟨i, hi, _, e1, e2⟩ := hy
      have hm : (i : Int) ∈ fromL ts n (x : Int) := by
        unfold fromL
        rw [List.mem_map]
        exact ⟨i, List.mem_filter.2 ⟨List.mem_range.2 (by omega), by simp [hi, e1]⟩, rfl⟩
      obtain ⟨j, hj, hji⟩ := List.getElem_of_mem hm
      exact h.done j hj hj i hi hji y e2
    · exact .inr hx
theorem fromL_at {ts : List T3} {n : Nat} {x : Int} (hn : ts.length = n) (j : Nat) (h : j < (fromL ts n x).length) : ∃ i, ∃ hi : i < ts.length, (fromL ts n x)[j] = (i : Int) ∧ ts[i].1 = x := by
  have hm := List.getElem_mem h
  generalize (fromL ts n x)[j] = z at hm ⊢
  unfold fromL at hm
  rw [List.mem_map] at hm
  obtain ⟨i, hi, rfl⟩ := hm
  obtain ⟨h1, h2⟩ := List.mem_filter.1 hi
  have hil : i < ts.length := by rw [hn]; exact List.mem_range.1 h1
  refine ⟨i, hil, rfl, ?_⟩
  simpa [hil] using h2
/-- In the end: just the stations that are reached. -/
theorem dfs_end {ts : List T3} {S st : Nat} {r : List Nat} (hN : Nats ts S) (h : Vis ts S st [] r) : sortI (r.map fun k : Nat => (k : Int)) = reachK ts S st S := by
  have hsub : ∀ x, Rch ts (-1) x st → ∀ y, y = st → x ∈ r := by
    intro x hx y _
    have key : ∀ u, Rch ts (-1) x u → u ∈ r → x ∈ r := by
      intro u hu
      induction hu with
      | here => exact fun h => h
      | step he _ ih => exact fun hm => ih ((h.closed _ hm).resolve_left (by simp) _ he)
    exact key st hx h.has
  refine sortI_of (List.Pairwise.map _ (fun a b hab e => hab (by omega)) h.nodup) ?_ (fun x => ?_)
  · unfold reachK
    refine List.Pairwise.map (fun k : Nat => (k : Int)) (R := (· < ·)) (fun a b hab => by omega) ?_
    exact List.Pairwise.filter _ List.pairwise_lt_range
  · unfold reachK
    rw [List.mem_map, List.mem_map]
    constructor
    · rintro ⟨k, hk, rfl⟩
      have hkS := h.bound k hk
      exact ⟨k, List.mem_filter.2 ⟨List.mem_range.2 hkS, (rB_iff hN hkS st).2 ((h.sound k hk).resolve_left (by simp))⟩, rfl⟩
    · rintro ⟨k, hk, rfl⟩
      obtain ⟨h1, h2⟩ := List.mem_filter.1 hk
      exact ⟨k, hsub k ((rB_iff hN (List.mem_range.1 h1) st).1 h2) st rfl, rfl⟩
theorem vis_len {ts : List T3} {S v : Nat} {r : List Nat} (h : Vis ts S v [] r) : r.length ≤ S := few_of h.nodup h.bound
end Go.Proofs.Ytbndminegokffaa
