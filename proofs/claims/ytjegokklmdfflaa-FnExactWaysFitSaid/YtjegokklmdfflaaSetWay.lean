/-
  The walks of SetWay, the model's and the program's.
-/
import Derived.Test.YtjegokklmdfflaaNeeds
namespace Go.Proofs.Ytjegokklmdfflaa
open Go.RowKit

/-- A setting in which the needs are met. -/
def setBy (set : List Int) (l : List (Int × Int)) : List Int := l.foldl (fun acc p => acc.set p.1.toNat p.2) set
theorem setBy_len (set : List Int) (l : List (Int × Int)) : (setBy set l).length = set.length := by
  unfold setBy
  induction l generalizing set with
  | nil => rfl
  | cons p l ih => rw [List.foldl_cons, ih, List.length_set]
theorem setBy_snoc (set : List Int) (l : List (Int × Int)) (p : Int × Int) : setBy set (l ++ [p]) = (setBy set l).set p.1.toNat p.2 := by
  unfold setBy; rw [List.foldl_append]; rfl
theorem hasB_mem {xs : List Int} {x : Int} (h : hasB xs x = false) : x ∉ xs := by
  unfold hasB at h
  intro g
  rw [← List.contains_iff_mem, h] at g
  exact absurd g (by decide)
theorem simpleB_steps {ts : List T3} {way : List Int} (h : simpleB ts way = true) : ∀ k, k < way.length → stepB ts way k = true := by
  unfold simpleB at h
  rw [Bool.and_eq_true] at h
  exact of_decide_eq_true h.1
/-- The stations of a simple way's needs are different. -/
theorem simple_apart {ts : List T3} {way : List Int} (h : simpleB ts way = true) {i j : Nat} (hij : i < j) (hj : j < way.length) : ¬ frAt ts way[i] = frAt ts way[j] := by
  have hs := simpleB_steps h j hj
  unfold stepB stepV at hs
  have e : way.getD j 0 = way[j] := by simp [hj]
  rw [e] at hs
  simp only [Bool.and_eq_true, Bool.not_eq_true'] at hs
  have hn := hasB_mem hs.1.2
  intro he
  apply hn
  unfold frs
  rw [List.mem_map]
  refine ⟨way[i], ?_, he⟩
  rw [List.mem_take_iff_getElem]
  exact ⟨i, by omega, rfl⟩
theorem nds_same {ts : List T3} {way : List Int} (h : simpleB ts way = true) {x y : Int × Int} (hx : x ∈ nds ts way way.length) (hy : y ∈ nds ts way way.length) (he : x.1 = y.1) : x = y := by
  unfold nds at hx hy
  rw [List.take_length] at hx hy
  rw [List.mem_map] at hx hy
  obtain ⟨a, ha, rfl⟩ := hx
  obtain ⟨b, hb, rfl⟩ := hy
  obtain ⟨i, hi, rfl⟩ := List.getElem_of_mem ha
  obtain ⟨j, hj, rfl⟩ := List.getElem_of_mem hb
  simp only at he
  by_cases hij : i = j
  · subst hij; rfl
  · exfalso
    rcases Nat.lt_or_ge i j with h1 | h1
    · exact simple_apart h h1 hj he
    · exact simple_apart h (show j < i by omega) hi he.symm
theorem setBy_perm {set : List Int} {l l' : List (Int × Int)} (h : l'.Perm l) (hnn : ∀ x ∈ l, 0 ≤ x.1) (hs : ∀ x ∈ l, ∀ y ∈ l, x.1 = y.1 → x = y) : setBy set l' = setBy set l := by
  unfold setBy
  refine List.Perm.foldl_eq' h (fun x hx y hy z => ?_) set
  have hx' := h.mem_iff.1 hx
  have hy' := h.mem_iff.1 hy
  by_cases he : x.1.toNat = y.1.toNat
  · have h1 := hnn x hx'
    have h2 := hnn y hy'
    rw [hs x hx' y hy' (by omega)]
  · exact List.set_comm _ _ he

/-- What SetWay returns. -/
def setWayOf (s : Int) (ts : List T3) (set way : List Int) : List Int × Int := if wayCode s ts set way = 0 then (setBy set (nds ts way way.length), 0) else ([], wayCode s ts set way)
theorem wayCode_parts {s : Int} {ts : List T3} {set way : List Int} (h : wayCode s ts set way = 0) : setB s ts set = true ∧ simpleB ts way = true := by
  unfold wayCode at h
  split at h
  · rename_i h1
    split at h
    · rename_i h2; exact ⟨h1, h2⟩
    · omega
  · omega
theorem setWayOf_len (s : Int) (ts : List T3) (set way : List Int) : (setWayOf s ts set way).1.length ≤ 1048576 := by
  unfold setWayOf
  split
  · rename_i h
    obtain ⟨h1, _⟩ := wayCode_parts h
    obtain ⟨hnet, hl, _⟩ := setB_parts h1
    obtain ⟨_, h10, _, _⟩ := netB_parts hnet
    simp only
    rw [setBy_len]; omega
  · simp
theorem way_st {n : Nat} {ts : List T3} {way : List Int} (hn : ts.length = n) (h : simpleB ts way = true) : ∀ k (hk : k < way.length), stB n way[k] = true := fun k hk => by rw [← hn]; exact stepB_st hk (simpleB_steps h k hk)

/-- A row of numbers of the call's own, at the head of a block. -/
def IRow (w : World) (g cap : Nat) (xs : List Int) : Prop := ∃ cur, w.heap[g]? = some (.cells cur 2 (0, 0)) ∧ cur.size = cap ∧ xs.length ≤ cap ∧ cap ≤ maxLen ∧ FilledI xs cur xs.length
theorem IRow.own {w : World} {g cap lo m : Nat} {xs : List Int} (h : IRow w g cap xs) (hlo : lo ≤ g) (hm : xs.length = m) : w.ownsRow lo 2 1 (.slice (some ⟨g, 0, none⟩) m cap) m (xs.map (Value.int .i64)) := by
  subst hm
  obtain ⟨cur, h1, h2, h3, h4, h5⟩ := h
  exact rowI_ownM h1 hlo h3 h4 (by omega) rfl h5
theorem IRow.of {w : World} {g cap lo m : Nat} {xs : List Int} (hm : xs.length = m) (h : w.ownsRow lo 2 1 (.slice (some ⟨g, 0, none⟩) m cap) m (xs.map (Value.int .i64))) : IRow w g cap xs := by
  subst hm
  rcases h.2 with ⟨hv, _⟩ | ⟨g', cap', cur, hv, _, hg, h1, h2, h3, ht⟩
  · injection hv with h1; injection h1
  · injection hv with e1 _ e3
    injection e1 with e1
    injection e1 with e1
    subst e1 e3
    refine ⟨cur, hg, by omega, h1, h2, fun i hi _ => ?_⟩
    have h4 := ints_cell xs i hi
    rw [← ht, List.getElem?_take_of_lt (by omega)] at h4
    simpa using h4
theorem IRow.below {w w' : World} {g cap : Nat} {xs : List Int} (h : IRow w g cap xs) (hb : Below w.heap.size w w') : IRow w' g cap xs := by
  obtain ⟨cur, h1, h2⟩ := h
  exact ⟨cur, (hb.block g (Array.getElem?_eq_some_iff.1 h1).1).trans h1, h2⟩
theorem IRow.store {w : World} {g cap : Nat} {xs : List Int} (h : IRow w g cap xs) (f : Nat) (z : Int) (hf : f < xs.length) :
    (∃ o, w.cell? ⟨g, f, none⟩ = some o) ∧ w.frozen? ⟨g, f, none⟩ = false ∧ IRow (w.setCell ⟨g, f, none⟩ (.int .i64 z)) g cap (xs.set f z) := by
  obtain ⟨cur, h1, h2, h3, h4, h5⟩ := h
  refine ⟨⟨_, (cell_of_row w g f cur _ (0, 0) h1).trans (h5 f hf hf)⟩, frozen_of_row w g f cur _ h1, cur.setIfInBounds f (.int .i64 z), heap_setCell_same _ _ _ _ _ _ h1, by simpa using h2, by simpa using h3, h4, ?_⟩
  intro i hi _
  rw [List.length_set] at hi
  by_cases e : i = f
  · subst e
    simp [Array.getElem?_setIfInBounds]
    omega
  · rw [Array.getElem?_setIfInBounds_ne (by omega), h5 i hi hi, List.getElem_set_ne (by omega)]
theorem own_form1 {w : World} {lo n : Nat} {e : TypeId} {size : Nat} {v : Value} {xs : List Value} (h : w.ownsRow lo e size v n xs) (hne : ¬ v = .slice none 0 0) : ∃ g cap, v = .slice (some ⟨g, 0, none⟩) n cap ∧ lo ≤ g := by
  rcases h.2 with ⟨hv, _⟩ | ⟨g, cap, cur, hv, hg, _⟩
  · exact absurd hv hne
  · exact ⟨g, cap, hv, hg⟩
/-- A call hands back a list in memory of its own that reads as another one. -/
def CopyGives (set : List Int) (m : Nat) (w : World) (e : Ending) (w' : World) : Prop :=
  ∃ g c, e = .returned (.slice (some ⟨g, 0, none⟩) m c) ∧ w.heap.size ≤ g ∧ Below w.heap.size w w' ∧ IRow w' g c set

theorem news_of {w : World} {bb ob : Nat} {set : List Int} (h : ∀ i (h : i < set.length), w.cell? ⟨bb, ob + i, none⟩ = some (.int .i64 set[i])) : ∀ j u, (set.map (Value.int .i64))[j]? = some u → w.cell? ((⟨bb, ob, none⟩ : Addr).add j) = some u := by
  intro j u hu
  rw [Addr.add_lit]
  have hj : j < (set.map (Value.int .i64)).length := (List.getElem?_eq_some_iff.1 hu).1
  have hj' : j < set.length := by simpa using hj
  rw [h j hj', ← ints_cell set j hj', hu]

theorem cell_so {W : World} {g f : Nat} {x v : Value} {p : Addr} (h : p.block < g) (hc : W.cell? p = some v) : ((W.setCell ⟨g, f, none⟩ x).drew).cell? p = some v :=
  (World.cell?_of_block (a := p) (Below.heap_setCell _ _ _ _ (Nat.ne_of_lt h))).trans hc

end Go.Proofs.Ytjegokklmdfflaa
