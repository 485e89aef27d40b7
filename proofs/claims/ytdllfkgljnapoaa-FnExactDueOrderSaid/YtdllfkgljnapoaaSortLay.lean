/-
  slices.SortStableFunc over indexes, by a closure that compares numbers: the library's insertion sort laid at this program, and the walks above it.
-/
import Derived.Test.YtdllfkgljnapoaaSortMath
import Derived.Test.YtdllfkgljnapoaaRowAt
import Derived.Test.YtdllfkgljnapoaaCopies
import Derived.Shelf.SlSortCmp.Insertion1
namespace Go.Proofs
open Go.Shelf
def Try.insSort_ren : Go.Shelf.Ren := ⟨fun | 20 => 44 | n => n, fun | 24 => 2 | 22 => 22 | 3 => 3 | 25 => 51 | 4 => 4 | 0 => 0 | n => n, fun | n => n⟩
theorem Try.insSort : Go.Proofs.SlLaysF.n20 Try.prog Try.insSort_ren := {
  mixed := by kernel_rfl
  f20 := ⟨Try.f44.name, by decide, Try.func44.trans (congrArg some (by kernel_rfl))⟩
  t0 := Try.underlying0
  a0 := Try.isAgg0
  z0 := Try.sizeOf0
  v0 := Try.zeroValue0
  t3 := Try.underlying3
  a3 := Try.isAgg3
  z3 := Try.sizeOf3
  v3 := Try.zeroValue3
  t4 := Try.underlying4
  a4 := Try.isAgg4
  z4 := Try.sizeOf4
  v4 := Try.zeroValue4
  t22 := Try.underlying22
  a22 := Try.isAgg22
  z22 := Try.sizeOf22
  v22 := Try.zeroValue22
  a24 := Try.isAgg2
  z24 := Try.sizeOf2
  t25 := Try.underlying51
  a25 := Try.isAgg51
  z25 := Try.sizeOf51
  v25 := Try.zeroValue51 }
end Go.Proofs
namespace Go.Proofs.Ytdllfkgljnapoaa
open Go.RowKit Go.Shelf Go.Sort

/-- What cmp.Compare says of two numbers. -/
def cmp3 (a b : Int) : Int := if a < b then -1 else if b < a then 1 else 0
theorem cmp3_lt (a b : Int) : decide (cmp3 a b < 0) = decide (a < b) := by
  unfold cmp3
  by_cases h : a < b
  · simp [h]
  · by_cases h2 : b < a <;> simp [h, h2]
theorem isNaN_any (x : Int) (w : World) : Calls Try.prog 43 #[.int .i64 x] w fun e w' => e = .returned (.bool false) ∧ w = w' := by
  have hx : (x != x) = false := by simp
  go_enter Try.func43, Try.ntmps43
  go_wp2
  go_ret
  exact ⟨by first | rfl | simp, rfl⟩
theorem compare_any (x y : Int) (w : World) : Calls Try.prog 40 #[.int .i64 x, .int .i64 y] w fun e w' => e = .returned (.int .i64 (cmp3 x y)) ∧ w = w' := by
  by_cases h1 : x < y
  · have HR : Hid (cmp3 x y = -1) := by unfold Hid cmp3; rw [if_pos h1]
    go_enter Try.func40, Try.ntmps40
    go_wp2_with (go_at_call 43; refine (isNaN_any _ _).mono ?_; rintro e w' ⟨rfl, rfl⟩)
    go_ret
    exact ⟨ret_int HR.out.symm, rfl⟩
  · by_cases h2 : y < x
    · have HR : Hid (cmp3 x y = 1) := by unfold Hid cmp3; rw [if_neg h1, if_pos h2]
      go_enter Try.func40, Try.ntmps40
      go_wp2_with (go_at_call 43; refine (isNaN_any _ _).mono ?_; rintro e w' ⟨rfl, rfl⟩)
      go_ret
      exact ⟨ret_int HR.out.symm, rfl⟩
    · have HR : Hid (cmp3 x y = 0) := by unfold Hid cmp3; rw [if_neg h1, if_neg h2]
      go_enter Try.func40, Try.ntmps40
      go_wp2_with (go_at_call 43; refine (isNaN_any _ _).mono ?_; rintro e w' ⟨rfl, rfl⟩)
      go_ret
      exact ⟨ret_int HR.out.symm, rfl⟩

/-- The world has made blocks and drawn, and nothing else. -/
def Grown (W w' : World) : Prop := ∃ q os, w' = grow (W.drewN q) os
theorem Grown.refl (W : World) : Grown W W := ⟨0, #[], by simp [grow, World.drewN]⟩
theorem Grown.alloc {W w' : World} (h : Grown W w') (o : Obj) : Grown W (w'.alloc o) := by
  obtain ⟨q, os, rfl⟩ := h
  exact ⟨q, os ++ #[o], by rw [alloc_eq_grow, grow_grow]⟩
theorem Grown.drew {W w' : World} (h : Grown W w') : Grown W w'.drew := by
  obtain ⟨q, os, rfl⟩ := h
  exact ⟨q + 1, os, rfl⟩
theorem Grown.drewN {W w' : World} (h : Grown W w') (n : Nat) : Grown W (w'.drewN n) := by
  obtain ⟨q, os, rfl⟩ := h
  exact ⟨q + n, os, by simp only [World.drewN, grow]; congr 1; omega⟩
theorem Grown.trans {W w1 w2 : World} (h : Grown W w1) (k : Grown w1 w2) : Grown W w2 := by
  obtain ⟨q, os, rfl⟩ := k
  obtain ⟨q1, os1, h1⟩ := h.drewN q
  exact ⟨q1, os1 ++ os, by rw [h1, grow_grow]⟩
theorem Grown.below {W w' : World} (h : Grown W w') : Below W.heap.size W w' := by
  obtain ⟨q, os, rfl⟩ := h
  refine ⟨rfl, rfl, rfl, by simp [grow, World.drewN], fun k hk => ?_⟩
  simp only [grow, World.drewN]
  rw [Array.getElem?_append_left hk]
theorem keepG {w1 w2 : World} {p : Addr} {v : Value} (h : Grown w1 w2) (hc : w1.cell? p = some v) : w2.cell? p = some v :=
  (h.below.cell (p := p) (World.block_lt_of_cell? w1 _ hc)).trans hc

/-- The sort's row, as a row of one's own. -/
theorem sorted_own1 {n g cap q : Nat} [Inhabited (Fin n)] {w : World} {lo : Nat} {ns : List Int} {d' : Array (Fin n)} {os : Array Obj} {l' : List Int} (h : w.ownsRow lo 2 1 (.slice (some ⟨g, 0, none⟩) n cap) n (ns.map (Value.int .i64))) (hd : d'.toList.map (fun x : Fin n => ((x : Nat) : Int)) = l') (hl : l'.length = n) :
    (sortWorld (fun x : Fin n => Value.int .i64 ((x : Nat) : Int)) w g 0 q d' os).ownsRow lo 2 1 (.slice (some ⟨g, 0, none⟩) n cap) n (l'.map (Value.int .i64)) ∧ w.grownBy (sortWorld (fun x : Fin n => Value.int .i64 ((x : Nat) : Int)) w g 0 q d' os) (some g) := by
  have hsz : d'.size = n := by have := congrArg List.length hd; simpa [hl] using this
  rcases h.2 with ⟨hv, _⟩ | ⟨g', cap', cur, hv, hlo, hg, hnc, hm, hs, ht⟩
  · injection hv with h1; exact absurd h1 (by simp)
  · injection hv with h1 h2 h3
    injection h1 with h1
    injection h1 with h1
    subst h1 h3
    have hlt : g < w.heap.size := (Array.getElem?_eq_some_iff.1 hg).1
    have hH : (sortWorld (fun x : Fin n => Value.int .i64 ((x : Nat) : Int)) w g 0 q d' os).heap[g]? = some (.cells (putCells (fun x : Fin n => Value.int .i64 ((x : Nat) : Int)) 0 d' cur) 2 (0, 0)) := by
      unfold sortWorld putRow mapBlock grow
      simp only
      rw [Array.getElem?_append_left (by simpa [Sort.ahead] using hlt), Array.getElem?_modify]
      have : (Sort.ahead w q).heap[g]? = some (.cells cur 2 (0, 0)) := hg
      rw [if_pos rfl, this]
      rfl
    refine ⟨⟨by simp [hl], .inr ⟨g, cap, _, rfl, hlo, hH, hnc, hm, by unfold putCells; simpa using hs, ?_⟩⟩, ?_⟩
    · apply List.ext_getElem?
      intro t
      by_cases ht2 : t < n * 1
      · have hc : t < cur.size := by omega
        have hd2 : t < d'.size := by omega
        rw [List.getElem?_take_of_lt ht2, Array.getElem?_toList, ← hd, List.map_map, List.getElem?_map, Array.getElem?_toList, Array.getElem?_eq_getElem hd2]
        unfold putCells
        rw [Array.getElem?_mapIdx, Array.getElem?_eq_getElem hc]
        simp only [Option.map_some]
        rw [if_pos ⟨Nat.zero_le _, by omega⟩, Nat.sub_zero, getElem!_pos d' t hd2]
        rfl
      · rw [List.getElem?_eq_none (by simp; omega), List.getElem?_eq_none (by simp [hl]; omega)]
    · refine ⟨rfl, rfl, rfl, ?_, ?_⟩
      · unfold sortWorld putRow mapBlock grow Sort.ahead; simp
      · intro i hi hne
        unfold sortWorld putRow mapBlock grow
        simp only
        rw [Array.getElem?_append_left (by simpa [Sort.ahead] using hi), Array.getElem?_modify]
        rw [if_neg (fun h => hne (by rw [h]))]
        rfl
theorem own_holds1 {n g cap : Nat} [Inhabited (Fin n)] {w : World} {lo : Nat} {ns : List Int} {d : Array (Fin n)} (h : w.ownsRow lo 2 1 (.slice (some ⟨g, 0, none⟩) n cap) n (ns.map (Value.int .i64))) (hd : d.toList.map (fun x : Fin n => ((x : Nat) : Int)) = ns) :
    Holds (fun x : Fin n => Value.int .i64 ((x : Nat) : Int)) w g 0 d := by
  intro j hj
  refine ⟨?_, ownsRow_frozen h _⟩
  rw [Nat.zero_add]
  refine ownsRow_cell h j _ ?_
  rw [← hd, List.map_map, List.getElem?_map, Array.getElem?_toList, Array.getElem?_eq_getElem hj, getElem!_pos d j hj]
  rfl
theorem own_lt {w : World} {lo : Nat} {e : TypeId} {size g n cap : Nat} {xs : List Value} (h : w.ownsRow lo e size (.slice (some ⟨g, 0, none⟩) n cap) n xs) : g < w.heap.size := by
  rcases h.2 with ⟨hv, _⟩ | ⟨g', cap', cur, hv, hlo, hg, _⟩
  · injection hv with h1; exact absurd h1 (by simp)
  · injection hv with h1 h2 h3
    injection h1 with h1
    injection h1 with h1
    subst h1
    exact (Array.getElem?_eq_some_iff.1 hg).1
/-- The indexes from 0 on. -/
def idx (n : Nat) : Array (Fin n) := Array.ofFn id
theorem idx_size (n : Nat) : (idx n).size = n := by simp [idx]
theorem idx_row (n : Nat) : (idx n).toList.map (fun x : Fin n => ((x : Nat) : Int)) = up 0 n := by
  apply List.ext_getElem
  · simp [idx, up]
  · intro i h1 h2
    simp [idx, up]
/-- What is asked of the closure: it compares the numbers of two indexes, and makes blocks at most. -/
def CmpOk (K : Int → Int) (F : Nat) (cb : Array Value) (n B : Nat) (wb : World) : Prop :=
  ∀ W, Below B wb W → ∀ x y : Nat, x < n → y < n → Calls Try.prog F (#[.int .i64 (x : Int), .int .i64 (y : Int)] ++ cb) W fun e w' => e = .returned (.int .i64 (cmp3 (K (x : Int)) (K (y : Int)))) ∧ Grown W w'
set_option maxRecDepth 100000 in
set_option maxHeartbeats 4000000 in
theorem insertion_any (K : Int → Int) (F : Nat) (cb : Array Value) (eg : ∀ args w, (callFunc F args).run Try.prog w = .ok (.enter F args) w) (g n cap B : Nat) (hn : 0 < n) (hn6 : n ≤ 20) (wb w : World) (hc : CmpOk K F cb n B wb) (hb : Below B wb w) (hg : B ≤ g)
    (ho : w.ownsRow B 2 1 (.slice (some ⟨g, 0, none⟩) n cap) n ((up 0 n).map (Value.int .i64))) :
    Calls Try.prog 44 #[.slice (some ⟨g, 0, none⟩) n cap, .int .i64 0, .int .i64 (n : Int), .func (.func F) #[] cb] w fun e w' => e = .returned (.tuple #[]) ∧ w.grownBy w' (some g) ∧ w'.ownsRow B 2 1 (.slice (some ⟨g, 0, none⟩) n cap) n ((srt K n).map (Value.int .i64)) := by
  haveI : Inhabited (Fin n) := ⟨⟨0, hn⟩⟩
  have hH := own_holds1 ho (idx_row n)
  have hlt := own_lt ho
  have hs : (idx n).size = n := idx_size n
  have hcmp : CmpLays1 Try.prog F cb (fun x : Fin n => Value.int .i64 ((x : Nat) : Int)) (fun x y => cmp3 (K ((x : Nat) : Int)) (K ((y : Nat) : Int))) g 0 (idx n).size w := by
    intro m os dk hdk x y
    have hl : (dk.toList.map (fun x : Fin n => ((x : Nat) : Int))).length = n := by simp [hdk, hs]
    obtain ⟨_, hgr⟩ := sorted_own1 (q := m) (os := os) ho rfl hl
    exact hc _ (hb.grown hgr (by omega) (fun k hk => by injection hk with hk; omega)) x y x.2 y.2
  have key := Any.insertionSortCmpFunc_s Try.insSort (fun x : Fin n => Value.int .i64 ((x : Nat) : Int)) (fun x y => cmp3 (K ((x : Nat) : Int)) (K ((y : Nat) : Int))) F cb g 0 cap 0 n (idx n) (idx n) w w eg hcmp ⟨fun _ => rfl, hH, hlt⟩ rfl (SW.start hH) (Nat.zero_le _) (by rw [hs]; exact Nat.le_refl _) (by rw [hs]; omega)
  rw [hs] at key
  refine Calls.mono key ?_
  rintro e w' ⟨rfl, m, os, rfl⟩
  obtain ⟨h1, h2⟩ := sorted_own1 (q := m) (os := os) ho (sort_row (lt := ltOf fun x y => cmp3 (K ((x : Nat) : Int)) (K ((y : Nat) : Int))) hn (fun x y => cmp3_lt _ _) (idx n) (idx_row n)) (srt_len K n)
  exact ⟨rfl, h2, h1⟩
end Go.Proofs.Ytdllfkgljnapoaa
