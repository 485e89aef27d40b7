/-
  The draws of the laws on codes: signs, rings and a distance; addresses and a distance.
-/
import Derived.Test.YtpkkibnpjhlfmaaDoorDraw5d
namespace Go.Proofs.YtpkkibnpjhlfmaaDoor
open Go.RowKit

/-- What a draw of three numbers leaves. -/
def Drawn3 (w : World) (e : Ending) (w' : World) : Prop := ∃ x y z : Int, e = .returned (.tuple #[.int .i64 x, .int .i64 y, .int .i64 z]) ∧ Below w.heap.size w w'
def Drawn2 (w : World) (e : Ending) (w' : World) : Prop := ∃ x y : Int, e = .returned (.tuple #[.int .i64 x, .int .i64 y]) ∧ Below w.heap.size w w'
set_option maxRecDepth 100000 in
set_option maxHeartbeats 8000000 in
theorem size5_any (a : Option Addr) (n c : Nat) (w : World) (hc : CodeIn w.heap.size a n w) (h1 : n ≤ 4096) :
    Calls Tryd.prog 66 #[.slice a n c] w (Drawn3 w) := by
  go_enter Tryd.func66, Tryd.ntmps66
  go_wp2_with fail
  refine (from_any a n c _ hc h1).mono ?_
  rintro e w1 ⟨g, rfl, hs1, hb1⟩
  have hg0 : w.heap.size ≤ g := hs1.1
  clear hc
  go_wp2_with fail
  refine (pick_any _ g 0 3 (by omega) _ (by omega) hs1).mono ?_
  rintro e w2 ⟨x, rfl, ⟨hx0, hx2, hx1⟩, hs2, hg2⟩
  have hx : x ≤ 2 := by omega
  have B2 := Lib.hid (below_gb hb1 hg2 hg0)
  clear hx2 hx1 hg2 hb1 hs1
  go_wp2_with fail
  refine (pick_any _ g _ 5 (by omega) _ (by omega) hs2).mono ?_
  rintro e w3 ⟨y, rfl, ⟨hy0, hy2, hy1⟩, hs3, hg3⟩
  have hy : y ≤ 4 := by omega
  have B3 := Lib.hid (below_gb B2.out hg3 hg0)
  clear hy2 hy1 hg3 hs2 B2
  go_wp2_with fail
  refine (pick_any _ g _ 12 (by omega) _ (by omega) hs3).mono ?_
  rintro e w4 ⟨q, rfl, ⟨hq0, hq2, hq1⟩, hs4, hg4⟩
  have hq : q ≤ 11 := by omega
  have B4 := Lib.hid (below_gb B3.out hg4 hg0)
  have S4 := Lib.hid hs4
  have hgl4 := hs4.lt
  clear hq2 hq1 hg4 hs3 hs4 B3
  rcases (by omega : q = 0 ∨ q = 1 ∨ q = 2 ∨ 3 ≤ q) with h6 | h6 | h6 | h6
  · subst h6
    go_wp2_with fail
    refine (among_any _ g _ w4.heap.size 0 [-1, 1, 2, 4, 5] 5 5 _ (by omega) (S4.out.below (by repeat (first | exact Below.refl _ _ | refine Below.alloc ?_ (by simp; try omega) _ | refine Below.setCell ?_ (by simp; try omega) _))) rfl (by omega) (by omega) (by omega) ?_).mono ?_
    · intro i hi
      rw [cell_of_row _ _ _ _ _ _ (heap_alloc_new w4 _)]
      rcases (by simp at hi; omega : i = 0 ∨ i = 1 ∨ i = 2 ∨ i = 3 ∨ i = 4) with rfl | rfl | rfl | rfl | rfl <;> rfl
    rintro e w5 ⟨z, rfl, hz, hs5, hg5⟩
    have B5 := Lib.hid (below_gb (two_worlds' B4.out (show Below w4.heap.size w4 (w4.alloc _) from (by repeat (first | exact Below.refl _ _ | refine Below.alloc ?_ (by simp; try omega) _ | refine Below.setCell ?_ (by simp; try omega) _)))) hg5 hg0)
    clear hg5 S4 B4
    clear hz
    go_wp2_with (first | (go_at_call 43; refine (max_any _ _ _).mono ?_; rintro e w' ⟨rfl, rfl⟩) | (go_at_call 55; refine (pick_any _ g _ _ (by omega) _ (by omega) hs5).mono ?_; rintro e w6 ⟨p, rfl, ⟨hp0, hp2, hp1⟩, hs6, hg6⟩))
    have B6 := Lib.hid (below_gb B5.out hg6 hg0)
    clear hg6 hs6 hp1
    exact bodyPost_ret (v := .tuple #[.int .i64 (z), .int .i64 (1 + y), .int .i64 (1 + p)]) (by simp [results, Tryd.results66, go_sem]) rfl ⟨_, _, _, rfl, B6.out⟩
  · subst h6
    go_wp2_with fail
    refine (among_any _ g _ w4.heap.size 0 [-1, 0, 1, 8, 9] 5 5 _ (by omega) (S4.out.below (by repeat (first | exact Below.refl _ _ | refine Below.alloc ?_ (by simp; try omega) _ | refine Below.setCell ?_ (by simp; try omega) _))) rfl (by omega) (by omega) (by omega) ?_).mono ?_
    · intro i hi
      rw [cell_of_row _ _ _ _ _ _ (heap_alloc_new w4 _)]
      rcases (by simp at hi; omega : i = 0 ∨ i = 1 ∨ i = 2 ∨ i = 3 ∨ i = 4) with rfl | rfl | rfl | rfl | rfl <;> rfl
    rintro e w5 ⟨z, rfl, hz, hs5, hg5⟩
    have B5 := Lib.hid (below_gb (two_worlds' B4.out (show Below w4.heap.size w4 (w4.alloc _) from (by repeat (first | exact Below.refl _ _ | refine Below.alloc ?_ (by simp; try omega) _ | refine Below.setCell ?_ (by simp; try omega) _)))) hg5 hg0)
    clear hg5 S4 B4
    have hz9 : z ≤ 9 := by simp at hz; omega
    clear hz
    go_wp2_with (first | (go_at_call 43; refine (max_any _ _ _).mono ?_; rintro e w' ⟨rfl, rfl⟩) | (go_at_call 55; refine (pick_any _ g _ _ (by omega) _ (by omega) hs5).mono ?_; rintro e w6 ⟨p, rfl, ⟨hp0, hp2, hp1⟩, hs6, hg6⟩))
    have B6 := Lib.hid (below_gb B5.out hg6 hg0)
    clear hg6 hs6 hp1
    exact bodyPost_ret (v := .tuple #[.int .i64 (2 + x), .int .i64 (z), .int .i64 (1 + p)]) (by simp [results, Tryd.results66, go_sem]) rfl ⟨_, _, _, rfl, B6.out⟩
  · subst h6
    go_wp2_with fail
    refine (among_any _ g _ w4.heap.size 0 [-1, 0, 1 + y, 1 + y + 1] 4 4 _ (by omega) (S4.out.below (by repeat (first | exact Below.refl _ _ | refine Below.alloc ?_ (by simp; try omega) _ | refine Below.setCell ?_ (by simp; try omega) _))) rfl (by omega) (by omega) (by omega) ?_).mono ?_
    · intro i hi
      rw [cell_of_row _ _ _ _ _ _ (heap_alloc_new w4 _)]
      rcases (by simp at hi; omega : i = 0 ∨ i = 1 ∨ i = 2 ∨ i = 3) with rfl | rfl | rfl | rfl <;> rfl
    rintro e w5 ⟨z, rfl, hz, hs5, hg5⟩
    have B5 := Lib.hid (below_gb (two_worlds' B4.out (show Below w4.heap.size w4 (w4.alloc _) from (by repeat (first | exact Below.refl _ _ | refine Below.alloc ?_ (by simp; try omega) _ | refine Below.setCell ?_ (by simp; try omega) _)))) hg5 hg0)
    clear hg5 S4 B4
    clear hz
    go_wp2
    exact bodyPost_ret (v := .tuple #[.int .i64 (2 + x), .int .i64 (1 + y), .int .i64 z]) (by simp [results, Tryd.results66, go_sem]) rfl ⟨_, _, _, rfl, B5.out⟩
  · have g0 : (q == 0) = false := by simp; omega
    have g1 : (q == 1) = false := by simp; omega
    have g2 : (q == 2) = false := by simp; omega
    go_wp2_with (first | (go_at_call 43; refine (max_any _ _ _).mono ?_; rintro e w' ⟨rfl, rfl⟩) | (go_at_call 55; refine (pick_any _ g _ _ (by omega) _ (by omega) S4.out).mono ?_; rintro e w6 ⟨p, rfl, ⟨hp0, hp2, hp1⟩, hs6, hg6⟩))
    have B6 := Lib.hid (below_gb B4.out hg6 hg0)
    clear hg6 hs6 hp1
    exact bodyPost_ret (v := .tuple #[.int .i64 (2 + x), .int .i64 (1 + y), .int .i64 (1 + p)]) (by simp [results, Tryd.results66, go_sem]) rfl ⟨_, _, _, rfl, B6.out⟩

set_option maxRecDepth 100000 in
theorem dDrawGreedyCode_any (a : Option Addr) (n c : Nat) (w : World) (hc : CodeIn w.heap.size a n w) (h1 : n ≤ 4096) :
    Calls Tryd.prog 25 #[.slice a n c] w (Drawn3 w) := by
  go_enter Tryd.func25, Tryd.ntmps25
  go_wp2_with fail
  refine (size5_any a n c _ hc h1).mono ?_
  rintro e w1 ⟨x, y, z, rfl, hb1⟩
  go_wp2
  exact bodyPost_ret (v := .tuple #[.int .i64 x, .int .i64 y, .int .i64 z]) (by simp [results, Tryd.results25, go_sem]) rfl ⟨x, y, z, rfl, hb1⟩

set_option maxRecDepth 100000 in
theorem dDrawMostAddresses_any (a : Option Addr) (n c : Nat) (w : World) (hc : CodeIn w.heap.size a n w) (h1 : n ≤ 4096) :
    Calls Tryd.prog 28 #[.slice a n c] w (Drawn3 w) := by
  go_enter Tryd.func28, Tryd.ntmps28
  go_wp2_with fail
  refine (size5_any a n c _ hc h1).mono ?_
  rintro e w1 ⟨x, y, z, rfl, hb1⟩
  go_wp2
  exact bodyPost_ret (v := .tuple #[.int .i64 x, .int .i64 y, .int .i64 z]) (by simp [results, Tryd.results28, go_sem]) rfl ⟨x, y, z, rfl, hb1⟩

set_option maxRecDepth 100000 in
theorem dDrawAllWords_any (a : Option Addr) (n c : Nat) (w : World) (hc : CodeIn w.heap.size a n w) (h1 : n ≤ 4096) :
    Calls Tryd.prog 31 #[.slice a n c] w (Drawn2 w) := by
  go_enter Tryd.func31, Tryd.ntmps31
  go_wp2_with fail
  refine (size5_any a n c _ hc h1).mono ?_
  rintro e w1 ⟨x, y, z, rfl, hb1⟩
  go_wp2
  exact bodyPost_ret (v := .tuple #[.int .i64 x, .int .i64 y]) (by simp [results, Tryd.results31, go_sem]) rfl ⟨x, y, rfl, hb1⟩

/-- What a draw of signs, addresses and a number leaves. -/
def DrawnD (w : World) (e : Ending) (w' : World) : Prop :=
  ∃ (sg : Int) (ss : List ByteArray) (a n c : Nat) (x : Int), e = .returned (.tuple #[.int .i64 sg, .slice (some ⟨a, 0, none⟩) n c, .int .i64 x]) ∧ Hid (ss.length = n) ∧ n ≤ 50 ∧ Hid (∀ s ∈ ss, s.size ≤ 20) ∧ Below w.heap.size w w' ∧
    w'.ownsRow w.heap.size 9 1 (.slice (some ⟨a, 0, none⟩) n c) n (ss.map Value.string)
set_option maxRecDepth 100000 in
set_option maxHeartbeats 8000000 in
theorem drawAdd_any (a : Option Addr) (n c : Nat) (w : World) (hc : CodeIn w.heap.size a n w) (h1 : n ≤ 4096) :
    Calls Tryd.prog 34 #[.slice a n c] w (DrawnD w) := by
  go_enter Tryd.func34, Tryd.ntmps34
  go_wp2_with fail
  refine (from_any a n c _ hc h1).mono ?_
  rintro e w1 ⟨g, rfl, hs1, hb1⟩
  have hg0 : w.heap.size ≤ g := hs1.1
  have hz1 := hb1.size
  clear hc
  go_wp2_with fail
  refine (draw5_any _ g 0 _ (by omega) hs1).mono ?_
  rintro e w2 ⟨sg, ss, av, m, cv, rfl, HN, hm, HZ, hs2, hg2, ho2⟩
  have B2 := Lib.hid (below_gb hb1 hg2 hg0)
  have S2 := Lib.hid hs2
  have O2 : Hid (w2.ownsRow w.heap.size 9 1 (.slice (some ⟨av, 0, none⟩) m cv) m (ss.map Value.string)) := own_lo ho2 hz1
  have HGE : Hid (∀ q, (Value.slice (some ⟨av, 0, none⟩) m cv).ownBlock = some q → w1.heap.size ≤ q) := fun q hq => (ho2.lt q hq).1
  have hgl1 := hs1.lt
  clear hb1 hs1 hg2 hs2 ho2
  go_wp2_with fail
  refine (one_any _ g _ 8 (by omega) _ (by omega) S2.out).mono ?_
  rintro e w5 ⟨bo, rfl, hs5, hg5⟩
  have B5 := Lib.hid (below_gb B2.out hg5 hg0)
  have O5 := Lib.hid (keepO O2.out hg5 HGE hgl1)
  have S5 := Lib.hid hs5
  have hgl5 := hs5.lt
  clear hg5 hs5 S2 B2 O2
  cases bo with
  | true =>
    go_wp2_with fail
    refine (among_any _ g _ w5.heap.size 0 [-1, 0, 1, 8, 9] 5 5 _ (by omega) (S5.out.below (by repeat (first | exact Below.refl _ _ | refine Below.alloc ?_ (by simp; try omega) _ | refine Below.setCell ?_ (by simp; try omega) _))) rfl (by omega) (by omega) (by omega) ?_).mono ?_
    · intro i hi
      rw [cell_of_row _ _ _ _ _ _ (heap_alloc_new w5 _)]
      rcases (by simp at hi; omega : i = 0 ∨ i = 1 ∨ i = 2 ∨ i = 3 ∨ i = 4) with rfl | rfl | rfl | rfl | rfl <;> rfl
    rintro e w6 ⟨z, rfl, _, hs6, hg6⟩
    have B6 := Lib.hid (below_gb (two_worlds' B5.out (show Below w5.heap.size w5 (w5.alloc _) from (by repeat (first | exact Below.refl _ _ | refine Below.alloc ?_ (by simp; try omega) _ | refine Below.setCell ?_ (by simp; try omega) _)))) hg6 hg0)
    have O6 := Lib.hid (keepO (O5.out.alloc _) hg6 HGE hgl1)
    clear hs6 hg6
    go_wp2
    exact bodyPost_ret (v := .tuple #[.int .i64 sg, .slice (some ⟨av, 0, none⟩) m cv, .int .i64 z]) (by simp [results, Tryd.results34, go_sem]) rfl ⟨sg, ss, av, m, cv, z, rfl, HN, hm, HZ, B6.out, O6.out⟩
  | false =>
    go_wp2_with fail
    refine (pick_any _ g _ 3 (by omega) _ (by omega) S5.out).mono ?_
    rintro e w6 ⟨z, rfl, ⟨hz0, hz2, hz1⟩, hs6, hg6⟩
    have B6 := Lib.hid (below_gb B5.out hg6 hg0)
    have O6 := Lib.hid (keepO O5.out hg6 HGE hgl1)
    clear hs6 hg6 hz1
    go_wp2
    exact bodyPost_ret (v := .tuple #[.int .i64 sg, .slice (some ⟨av, 0, none⟩) m cv, .int .i64 (1 + z)]) (by simp [results, Tryd.results34, go_sem]) rfl ⟨sg, ss, av, m, cv, _, rfl, HN, hm, HZ, B6.out, O6.out⟩
end Go.Proofs.YtpkkibnpjhlfmaaDoor
