/-
  slices.Sort at []int64: its contract laid at this program, in plain words; what it says of a row of one's own.
-/
import Derived.Test.YtkkpfdkclfcdmaaRowAt
import Derived.Test.YtkkpfdkclfcdmaaProg
import Derived.Shelf.SortM.Plain
namespace Go.Proofs
open Go.Shelf
def Try.sortInts_ren : Go.Shelf.Ren := ⟨fun | 5 => 37 | 8 => 45 | 7 => 44 | 19 => 56 | 20 => 57 | 10 => 47 | 11 => 48 | 12 => 49 | 13 => 50 | 14 => 51 | 15 => 52 | 16 => 53 | 17 => 54 | 18 => 55 | 30 => 58 | 31 => 59 | 32 => 60 | 33 => 61 | 34 => 62 | 35 => 63 | 40 => 64 | n => n, fun | 23 => 26 | 25 => 2 | 3 => 3 | 32 => 74 | 22 => 26 | 0 => 0 | 44 => 87 | 46 => 89 | 4 => 4 | 36 => 79 | 35 => 78 | 41 => 84 | 5 => 5 | 9 => 9 | 53 => 90 | 57 => 94 | 63 => 97 | 64 => 98 | n => n, fun | n => n⟩
theorem Try.sortInts : Go.Proofs.SlLaysM.n5 Try.prog Try.sortInts_ren := {
  mixed := by kernel_rfl
  f5 := ⟨Try.f37.name, by decide, Try.func37.trans (congrArg some (by kernel_rfl))⟩
  f7 := ⟨Try.f44.name, by decide, Try.func44.trans (congrArg some (by kernel_rfl))⟩
  f8 := Try.func45.trans (congrArg some (by kernel_rfl))
  f10 := ⟨Try.f47.name, by decide, Try.func47.trans (congrArg some (by kernel_rfl))⟩
  f11 := ⟨Try.f48.name, by decide, Try.func48.trans (congrArg some (by kernel_rfl))⟩
  f12 := ⟨Try.f49.name, by decide, Try.func49.trans (congrArg some (by kernel_rfl))⟩
  f13 := ⟨Try.f50.name, by decide, Try.func50.trans (congrArg some (by kernel_rfl))⟩
  f14 := ⟨Try.f51.name, by decide, Try.func51.trans (congrArg some (by kernel_rfl))⟩
  f15 := ⟨Try.f52.name, by decide, Try.func52.trans (congrArg some (by kernel_rfl))⟩
  f16 := ⟨Try.f53.name, by decide, Try.func53.trans (congrArg some (by kernel_rfl))⟩
  f17 := ⟨Try.f54.name, by decide, Try.func54.trans (congrArg some (by kernel_rfl))⟩
  f18 := ⟨Try.f55.name, by decide, Try.func55.trans (congrArg some (by kernel_rfl))⟩
  f19 := Try.func56.trans (congrArg some (by kernel_rfl))
  f20 := Try.func57.trans (congrArg some (by kernel_rfl))
  f30 := ⟨Try.f58.name, by decide, Try.func58.trans (congrArg some (by kernel_rfl))⟩
  f31 := Try.func59.trans (congrArg some (by kernel_rfl))
  f32 := Try.func60.trans (congrArg some (by kernel_rfl))
  f33 := ⟨Try.f61.name, by decide, Try.func61.trans (congrArg some (by kernel_rfl))⟩
  f34 := ⟨Try.f62.name, by decide, Try.func62.trans (congrArg some (by kernel_rfl))⟩
  f35 := ⟨Try.f63.name, by decide, Try.func63.trans (congrArg some (by kernel_rfl))⟩
  f40 := ⟨Try.f64.name, by decide, Try.func64.trans (congrArg some (by kernel_rfl))⟩
  t0 := Try.underlying0
  a0 := Try.isAgg0
  z0 := Try.sizeOf0
  v0 := Try.zeroValue0
  t3 := Try.underlying3
  a3 := Try.isAgg3
  z3 := Try.sizeOf3
  v3 := Try.zeroValue3
  t4 := Try.underlying4
  a4 := Try.isAgg4
  z4 := Try.sizeOf4
  v4 := Try.zeroValue4
  t5 := Try.underlying5
  a5 := Try.isAgg5
  z5 := Try.sizeOf5
  v5 := Try.zeroValue5
  t9 := Try.underlying9
  a9 := Try.isAgg9
  z9 := Try.sizeOf9
  v9 := Try.zeroValue9
  t22 := Try.underlying26
  a22 := Try.isAgg26
  z22 := Try.sizeOf26
  v22 := Try.zeroValue26
  t23 := Try.underlying26
  a23 := Try.isAgg26
  z23 := Try.sizeOf26
  v23 := Try.zeroValue26
  t25 := Try.underlying2
  a25 := Try.isAgg2
  z25 := Try.sizeOf2
  v25 := Try.zeroValue2
  t32 := Try.underlying74
  a32 := Try.isAgg74
  z32 := Try.sizeOf74
  v32 := Try.zeroValue74
  t35 := Try.underlying78
  a35 := Try.isAgg78
  z35 := Try.sizeOf78
  v35 := Try.zeroValue78
  t36 := Try.underlying79
  a36 := Try.isAgg79
  z36 := Try.sizeOf79
  v36 := Try.zeroValue79
  t41 := Try.underlying84
  a41 := Try.isAgg84
  z41 := Try.sizeOf84
  v41 := Try.zeroValue84
  t44 := Try.underlying87
  a44 := Try.isAgg87
  z44 := Try.sizeOf87
  v44 := Try.zeroValue87
  t46 := Try.underlying89
  a46 := Try.isAgg89
  z46 := Try.sizeOf89
  v46 := Try.zeroValue89
  t53 := Try.underlying90
  a53 := Try.isAgg90
  z53 := Try.sizeOf90
  v53 := Try.zeroValue90
  t57 := Try.underlying94
  a57 := Try.isAgg94
  z57 := Try.sizeOf94
  v57 := Try.zeroValue94
  t63 := Try.underlying97
  a63 := Try.isAgg97
  z63 := Try.sizeOf97
  v63 := Try.zeroValue97
  t64 := Try.underlying98
  a64 := Try.isAgg98
  z64 := Try.sizeOf98
  v64 := Try.zeroValue98 }
end Go.Proofs
namespace Go.Proofs.Ytkkpfdkclfcdmaa
open Go.RowKit Go.Shelf Go.Sort

theorem own_holdsI {g n cap : Nat} {w : World} {lo : Nat} {l : List Int} (h : w.ownsRow lo 2 1 (.slice (some ⟨g, 0, none⟩) n cap) n (l.map (Value.int .i64))) : Holds (Value.int .i64) w g 0 l.toArray := by
  intro j hj
  have hj' : j < l.length := by simpa using hj
  refine ⟨?_, ownsRow_frozen h _⟩
  rw [Nat.zero_add]
  refine ownsRow_cell h j _ ?_
  rw [List.getElem?_map, List.getElem?_eq_getElem hj', getElem!_pos l.toArray j hj]
  simp
theorem sorted_ownI {g n cap q : Nat} {w : World} {lo : Nat} {ns l' : List Int} {os : Array Obj} (h : w.ownsRow lo 2 1 (.slice (some ⟨g, 0, none⟩) n cap) n (ns.map (Value.int .i64))) (hl : l'.length = n) :
    (grow (putRow (Value.int .i64) (Sort.ahead w q) g 0 l'.toArray) os).ownsRow lo 2 1 (.slice (some ⟨g, 0, none⟩) n cap) n (l'.map (Value.int .i64)) ∧ w.grownBy (grow (putRow (Value.int .i64) (Sort.ahead w q) g 0 l'.toArray) os) (some g) := by
  rcases h.2 with ⟨hv, _⟩ | ⟨g', cap', cur, hv, hlo, hg, hnc, hm, hs, ht⟩
  · injection hv with h1; exact absurd h1 (by simp)
  · injection hv with h1 h2 h3
    injection h1 with h1
    injection h1 with h1
    subst h1 h3
    have hlt : g < w.heap.size := (Array.getElem?_eq_some_iff.1 hg).1
    have hH : (grow (putRow (Value.int .i64) (Sort.ahead w q) g 0 l'.toArray) os).heap[g]? = some (.cells (putCells (Value.int .i64) 0 l'.toArray cur) 2 (0, 0)) := by
      unfold putRow mapBlock grow
      simp only
      rw [Array.getElem?_append_left (by simpa [Sort.ahead] using hlt), Array.getElem?_modify]
      have : (Sort.ahead w q).heap[g]? = some (.cells cur 2 (0, 0)) := hg
      rw [if_pos rfl, this]
      rfl
    refine ⟨⟨by simp [hl], .inr ⟨g, cap, _, rfl, hlo, hH, hnc, hm, by unfold putCells; simpa using hs, ?_⟩⟩, ?_⟩
    · apply List.ext_getElem?
      intro t
      by_cases ht2 : t < n * 1
      · have hc : t < cur.size := by omega
        have hd2 : t < l'.toArray.size := by simp; omega
        rw [List.getElem?_take_of_lt ht2, Array.getElem?_toList, List.getElem?_map, List.getElem?_eq_getElem (by simpa using hd2)]
        unfold putCells
        rw [Array.getElem?_mapIdx, Array.getElem?_eq_getElem hc]
        simp only [Option.map_some]
        rw [if_pos ⟨Nat.zero_le _, by omega⟩, Nat.sub_zero, getElem!_pos l'.toArray t hd2]
        simp
      · rw [List.getElem?_eq_none (by simp; omega), List.getElem?_eq_none (by simp [hl]; omega)]
    · refine ⟨rfl, rfl, rfl, ?_, ?_⟩
      · unfold putRow mapBlock grow Sort.ahead; simp
      · intro i hi hne
        unfold putRow mapBlock grow
        simp only
        rw [Array.getElem?_append_left (by simpa [Sort.ahead] using hi), Array.getElem?_modify]
        rw [if_neg (fun h => hne (by rw [h]))]
        rfl
/-- The numbers in ascending order. -/
def sortI (l : List Int) : List Int := l.mergeSort fun x y => decide (x ≤ y)
theorem sortI_len (l : List Int) : (sortI l).length = l.length := by simp [sortI]
theorem sortInts_any (g m cap lo : Nat) (l : List Int) (w : World) (hl : l.length = m) (hm : m ≤ 1048576) (ho : w.ownsRow lo 2 1 (.slice (some ⟨g, 0, none⟩) m cap) m (l.map (Value.int .i64))) :
    Calls Try.prog 37 #[.slice (some ⟨g, 0, none⟩) m cap] w fun e w' => e = .returned (.tuple #[]) ∧ w.grownBy w' (some g) ∧ w'.ownsRow lo 2 1 (.slice (some ⟨g, 0, none⟩) m cap) m ((sortI l).map (Value.int .i64)) := by
  have hlt : g < w.heap.size := by
    rcases ho.2 with ⟨hv, _⟩ | ⟨g', cap', cur, hv, _, hg, _⟩
    · injection hv with h1; exact absurd h1 (by simp)
    · injection hv with h1 h2 h3
      injection h1 with h1
      injection h1 with h1
      subst h1
      exact (Array.getElem?_eq_some_iff.1 hg).1
  have key := AnyM.slices_Sort_int Try.sortInts g 0 cap l w (own_holdsI ho) hlt (by omega)
  rw [hl] at key
  refine Calls.mono key ?_
  rintro e w' ⟨rfl, q, os, rfl⟩
  obtain ⟨h1, h2⟩ := sorted_ownI (q := q) (os := os) (l' := sortI l) ho (by rw [sortI_len, hl])
  exact ⟨rfl, h2, h1⟩
/-- A list without repetition is sorted into the ascending list of its elements. -/
theorem sortI_of {l r : List Int} (hd : l.Nodup) (hr : r.Pairwise (· < ·)) (h : ∀ x, x ∈ l ↔ x ∈ r) : sortI l = r := by
  have hrd : r.Nodup := hr.imp (fun h => Int.ne_of_lt h)
  have hp : (sortI l).Perm r := (List.mergeSort_perm l _).trans ((List.perm_ext_iff_of_nodup hd hrd).2 h)
  have hs : (sortI l).Pairwise (· ≤ ·) := by
    have := List.pairwise_mergeSort (le := fun x y : Int => decide (x ≤ y)) (fun a b c h1 h2 => by simp at *; omega) (fun a b => by simp; omega) l
    exact this.imp (fun h => of_decide_eq_true h)
  exact List.Perm.eq_of_pairwise (fun a b _ _ h1 h2 => Int.le_antisymm h1 h2) hs (hr.imp Int.le_of_lt) hp
end Go.Proofs.Ytkkpfdkclfcdmaa
