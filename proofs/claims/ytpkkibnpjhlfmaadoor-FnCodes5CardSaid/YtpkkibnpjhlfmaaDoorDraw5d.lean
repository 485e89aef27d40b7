/-
  The draws of the laws on addresses: two words; addresses with two numbers.
-/
import Derived.Test.YtpkkibnpjhlfmaaDoorDraw5c
namespace Go.Proofs.YtpkkibnpjhlfmaaDoor
open Go.RowKit

theorem keepO {w w' : World} {lo hi g n : Nat} {v : Value} {xs : List Value} (h : w.ownsRow lo 9 1 v n xs) (hg : w.grownBy w' (some g)) (hGE : Hid (∀ q, v.ownBlock = some q → hi ≤ q)) (hlt : g < hi) : w'.ownsRow lo 9 1 v n xs :=
  h.kept hg (by
    cases hv : v.ownBlock with
    | none => exact .inl rfl
    | some q => exact .inr (fun e => by injection e with e; have := hGE.out q hv; omega))
/-- What a draw of two texts leaves. -/
def DrawnTT (w : World) (e : Ending) (w' : World) : Prop :=
  ∃ (s t : ByteArray), e = .returned (.tuple #[.string s, .string t]) ∧ s.size ≤ 20 ∧ t.size ≤ 20 ∧ Below w.heap.size w w'
set_option maxRecDepth 100000 in
set_option maxHeartbeats 8000000 in
theorem drawDist_any (a : Option Addr) (n c : Nat) (w : World) (hc : CodeIn w.heap.size a n w) (h1 : n ≤ 4096) :
    Calls Tryd.prog 14 #[.slice a n c] w (DrawnTT w) := by
  go_enter Tryd.func14, Tryd.ntmps14
  go_wp2_with fail
  refine (from_any a n c _ hc h1).mono ?_
  rintro e w1 ⟨g, rfl, hs1, hb1⟩
  have hg0 : w.heap.size ≤ g := hs1.1
  clear hc
  go_wp2_with fail
  refine (pick_any _ g 0 8 (by omega) _ (by omega) hs1).mono ?_
  rintro e w2 ⟨x, rfl, ⟨hx0, hx2, hx1⟩, hs2, hg2⟩
  have hx7 : x ≤ 7 := by omega
  have B2 := Lib.hid (below_gb hb1 hg2 hg0)
  clear hx2 hx1 hg2 hb1 hs1
  go_wp2_with fail
  refine (drawWord_any _ g _ 4 _ (by omega) (by omega) _ (by omega) hs2).mono ?_
  rintro e w3 ⟨u, rfl, hu, hs3, hg3⟩
  have B3 := Lib.hid (below_gb B2.out hg3 hg0)
  clear hg3 hs2 B2
  go_wp2_with fail
  refine (one_any _ g _ 8 (by omega) _ (by omega) hs3).mono ?_
  rintro e w4 ⟨bo, rfl, hs4, hg4⟩
  have B4 := Lib.hid (below_gb B3.out hg4 hg0)
  have S4 := Lib.hid hs4
  have hgl4 := hs4.lt
  clear hg4 hs3 B3 hs4
  cases bo with
  | true =>
    go_wp2_with fail
    refine (text_any _ g _ w4.heap.size 0 [⟨#[]⟩, ⟨#[97]⟩, ⟨#[101]⟩, ⟨#[97, 98, 99, 100, 97, 98, 99, 100, 97]⟩, ⟨#[97, 98, 99, 100, 97, 98, 99, 100]⟩] 5 5 _ (by omega) (S4.out.below (by repeat (first | exact Below.refl _ _ | refine Below.alloc ?_ (by simp; try omega) _ | refine Below.setCell ?_ (by simp; try omega) _))) rfl (by omega) (by omega) (by omega) ?_).mono ?_
    · intro i hi
      rw [cell_of_row _ _ _ _ _ _ (heap_alloc_new w4 _)]
      rcases (by simp at hi; omega : i = 0 ∨ i = 1 ∨ i = 2 ∨ i = 3 ∨ i = 4) with rfl | rfl | rfl | rfl | rfl <;> rfl
    rintro e w5 ⟨v, rfl, hv, hs5, hg5⟩
    have hvs : v.size ≤ 20 := by
      simp at hv
      rcases hv with rfl | rfl | rfl | rfl | rfl <;> decide
    have B5 := Lib.hid (below_gb (two_worlds' B4.out (show Below w4.heap.size w4 (w4.alloc _) from (by repeat (first | exact Below.refl _ _ | refine Below.alloc ?_ (by simp; try omega) _ | refine Below.setCell ?_ (by simp; try omega) _)))) hg5 hg0)
    clear hv hs5 hg5
    go_wp2
    exact bodyPost_ret (v := .tuple #[.string u, .string v]) (by simp [results, Tryd.results14, go_sem]) rfl ⟨u, v, rfl, hu, hvs, B5.out⟩
  | false =>
    go_wp2_with fail
    refine (drawWord_any _ g _ 4 _ (by omega) (by omega) _ (by omega) S4.out).mono ?_
    rintro e w5 ⟨v, rfl, hvs, hs5, hg5⟩
    have B5 := Lib.hid (below_gb B4.out hg5 hg0)
    clear hs5 hg5
    go_wp2
    exact bodyPost_ret (v := .tuple #[.string u, .string v]) (by simp [results, Tryd.results14, go_sem]) rfl ⟨u, v, rfl, hu, hvs, B5.out⟩

/-- What a draw of signs, addresses and two numbers leaves. -/
def DrawnM (w : World) (e : Ending) (w' : World) : Prop :=
  ∃ (sg : Int) (ss : List ByteArray) (a n c : Nat) (x y : Int), e = .returned (.tuple #[.int .i64 sg, .slice (some ⟨a, 0, none⟩) n c, .int .i64 x, .int .i64 y]) ∧ Hid (ss.length = n) ∧ n ≤ 50 ∧ Hid (∀ s ∈ ss, s.size ≤ 20) ∧ Below w.heap.size w w' ∧
    w'.ownsRow w.heap.size 9 1 (.slice (some ⟨a, 0, none⟩) n c) n (ss.map Value.string)
set_option maxRecDepth 100000 in
set_option maxHeartbeats 8000000 in
theorem drawMis_any (a : Option Addr) (n c : Nat) (w : World) (hc : CodeIn w.heap.size a n w) (h1 : n ≤ 4096) :
    Calls Tryd.prog 17 #[.slice a n c] w (DrawnM w) := by
  go_enter Tryd.func17, Tryd.ntmps17
  go_wp2_with fail
  refine (from_any a n c _ hc h1).mono ?_
  rintro e w1 ⟨g, rfl, hs1, hb1⟩
  have hg0 : w.heap.size ≤ g := hs1.1
  have hz1 := hb1.size
  clear hc
  go_wp2_with fail
  refine (draw5_any _ g 0 _ (by omega) hs1).mono ?_
  rintro e w2 ⟨sg, ss, av, m, cv, rfl, HN, hm, HZ, hs2, hg2, ho2⟩
  have B2 := Lib.hid (below_gb hb1 hg2 hg0)
  have S2 := Lib.hid hs2
  have O2 : Hid (w2.ownsRow w.heap.size 9 1 (.slice (some ⟨av, 0, none⟩) m cv) m (ss.map Value.string)) := own_lo ho2 hz1
  have HGE : Hid (∀ q, (Value.slice (some ⟨av, 0, none⟩) m cv).ownBlock = some q → w1.heap.size ≤ q) := fun q hq => (ho2.lt q hq).1
  have hgl1 := hs1.lt
  clear hb1 hs1 hg2 hs2 ho2
  go_wp2_with fail
  refine (pick_any _ g _ _ (by omega) _ (by omega) S2.out).mono ?_
  rintro e w3 ⟨x, rfl, ⟨hx0, hx2, hx1⟩, hs3, hg3⟩
  have B3 := Lib.hid (below_gb B2.out hg3 hg0)
  have O3 := Lib.hid (keepO O2.out hg3 HGE hgl1)
  have S3 := Lib.hid hs3
  clear hg3 hs3 hx1 S2 B2 O2
  go_wp2_with fail
  refine (pick_any _ g _ 16 (by omega) _ (by omega) S3.out).mono ?_
  rintro e w4 ⟨y, rfl, ⟨hy0, hy2, hy1⟩, hs4, hg4⟩
  have B4 := Lib.hid (below_gb B3.out hg4 hg0)
  have O4 := Lib.hid (keepO O3.out hg4 HGE hgl1)
  have S4 := Lib.hid hs4
  clear hg4 hs4 hy1 S3 B3 O3
  go_wp2_with fail
  refine (one_any _ g _ 8 (by omega) _ (by omega) S4.out).mono ?_
  rintro e w5 ⟨bo, rfl, hs5, hg5⟩
  have B5 := Lib.hid (below_gb B4.out hg5 hg0)
  have O5 := Lib.hid (keepO O4.out hg5 HGE hgl1)
  have S5 := Lib.hid hs5
  have hgl5 := hs5.lt
  clear hg5 hs5 S4 B4 O4
  cases bo with
  | true =>
    go_wp2_with fail
    refine (among_any _ g _ w5.heap.size 0 [-1, 0, 8, 9] 4 4 _ (by omega) (S5.out.below (by repeat (first | exact Below.refl _ _ | refine Below.alloc ?_ (by simp; try omega) _ | refine Below.setCell ?_ (by simp; try omega) _))) rfl (by omega) (by omega) (by omega) ?_).mono ?_
    · intro i hi
      rw [cell_of_row _ _ _ _ _ _ (heap_alloc_new w5 _)]
      rcases (by simp at hi; omega : i = 0 ∨ i = 1 ∨ i = 2 ∨ i = 3) with rfl | rfl | rfl | rfl <;> rfl
    rintro e w6 ⟨z, rfl, _, hs6, hg6⟩
    have B6 := Lib.hid (below_gb (two_worlds' B5.out (show Below w5.heap.size w5 (w5.alloc _) from (by repeat (first | exact Below.refl _ _ | refine Below.alloc ?_ (by simp; try omega) _ | refine Below.setCell ?_ (by simp; try omega) _)))) hg6 hg0)
    have O6 := Lib.hid (keepO (O5.out.alloc _) hg6 HGE hgl1)
    clear hs6 hg6
    go_wp2
    exact bodyPost_ret (v := .tuple #[.int .i64 sg, .slice (some ⟨av, 0, none⟩) m cv, .int .i64 _, .int .i64 z]) (by simp [results, Tryd.results17, go_sem]; rfl) rfl ⟨sg, ss, av, m, cv, _, z, rfl, HN, hm, HZ, B6.out, O6.out⟩
  | false =>
    go_wp2_with fail
    refine (pick_any _ g _ 4 (by omega) _ (by omega) S5.out).mono ?_
    rintro e w6 ⟨z, rfl, _, hs6, hg6⟩
    have B6 := Lib.hid (below_gb B5.out hg6 hg0)
    have O6 := Lib.hid (keepO O5.out hg6 HGE hgl1)
    clear hs6 hg6
    go_wp2
    exact bodyPost_ret (v := .tuple #[.int .i64 sg, .slice (some ⟨av, 0, none⟩) m cv, .int .i64 _, .int .i64 z]) (by simp [results, Tryd.results17, go_sem]; rfl) rfl ⟨sg, ss, av, m, cv, _, z, rfl, HN, hm, HZ, B6.out, O6.out⟩
end Go.Proofs.YtpkkibnpjhlfmaaDoor
