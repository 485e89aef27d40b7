/-
  The draws of the laws on addresses.
-/
import Derived.Test.YtpkkibnpjhlfmaaDoorDraw5b
namespace Go.Proofs.YtpkkibnpjhlfmaaDoor
open Go.RowKit

theorem below_gb {a b c : World} {g : Nat} (h : Below a.heap.size a b) (k : b.grownBy c (some g)) (hg : a.heap.size ≤ g) : Below a.heap.size a c := h.grown k h.size (fun q hq => by injection hq with hq; omega)
/-- What a draw of signs, addresses and a text leaves. -/
def DrawnN (w : World) (e : Ending) (w' : World) : Prop :=
  ∃ (sg : Int) (ss : List ByteArray) (a n c : Nat) (s : ByteArray), e = .returned (.tuple #[.int .i64 sg, .slice (some ⟨a, 0, none⟩) n c, .string s]) ∧ Hid (ss.length = n) ∧ n ≤ 50 ∧ Hid (∀ s ∈ ss, s.size ≤ 20) ∧ s.size ≤ 20 ∧ Below w.heap.size w w' ∧
    w'.ownsRow w.heap.size 9 1 (.slice (some ⟨a, 0, none⟩) n c) n (ss.map Value.string)

set_option maxRecDepth 100000 in
set_option maxHeartbeats 8000000 in
theorem drawNear_any (a : Option Addr) (n c : Nat) (w : World) (hc : CodeIn w.heap.size a n w) (h1 : n ≤ 4096) :
    Calls Tryd.prog 7 #[.slice a n c] w (DrawnN w) := by
  go_enter Tryd.func7, Tryd.ntmps7
  go_wp2_with fail
  refine (from_any a n c _ hc h1).mono ?_
  rintro e w1 ⟨g, rfl, hs1, hb1⟩
  have hg0 : w.heap.size ≤ g := hs1.1
  have hz1 := hb1.size
  clear hc
  go_wp2_with fail
  refine (draw5_any _ g 0 _ (by omega) hs1).mono ?_
  rintro e w2 ⟨sg, ss, av, m, cv, rfl, HN, hm, HZ, hs2, hg2, ho2⟩
  have B2 := Lib.hid (below_gb hb1 hg2 hg0)
  have S2 := Lib.hid hs2
  have O2 : Hid (w2.ownsRow w.heap.size 9 1 (.slice (some ⟨av, 0, none⟩) m cv) m (ss.map Value.string)) := own_lo ho2 hz1
  have HGE : Hid (∀ q, (Value.slice (some ⟨av, 0, none⟩) m cv).ownBlock = some q → w1.heap.size ≤ q) := fun q hq => (ho2.lt q hq).1
  have hgl1 := hs1.lt
  clear hb1 hs1 hg2 hs2 ho2
  go_upto_if 18 with fail
  go_cut [8] (fun s8 wx => ∃ rg : Int, s8 = .int .i64 rg ∧ rg ≤ 20 ∧ w2 = wx)
  case first =>
    by_cases hm0 : m = 0
    · subst hm0
      go_wp2_with fail
      go_meet
      exact ⟨_, rfl, by omega, rfl⟩
    · have x0 := row_cellD O2.out 0 (by have := HN.out; omega)
      have hz0 := HZ.out _ (List.getElem_mem (l := ss) (n := 0) (by have := HN.out; omega))
      generalize ss[0]'(by have := HN.out; omega) = t0 at x0 hz0
      have hmp : (0 : Int) < (m : Int) := by omega
      have hmp' : 0 < m := by omega
      go_wp2_with fail
      go_meet
      exact ⟨_, rfl, by omega, rfl⟩
  case rest =>
    obtain ⟨rg, rfl, hrg, rfl⟩ := hcut
    go_wp2_with fail
    refine (one_any _ g _ 8 (by omega) _ (by omega) S2.out).mono ?_
    rintro e w3 ⟨bo, rfl, hs3, hg3⟩
    have B3 := Lib.hid (below_gb B2.out hg3 hg0)
    have O3 : Hid (w3.ownsRow w.heap.size 9 1 (.slice (some ⟨av, 0, none⟩) m cv) m (ss.map Value.string)) := O2.out.kept hg3 (by
      cases hv : (Value.slice (some ⟨av, 0, none⟩) m cv).ownBlock with
      | none => exact .inl rfl
      | some q => exact .inr (fun e => by injection e with e; have := HGE.out q hv; omega))
    have S3 := Lib.hid hs3
    have hgl3 := hs3.lt
    clear hs3 hg3 S2 B2 O2
    cases bo with
    | true =>
      go_wp2_with fail
      refine (text_any _ g _ w3.heap.size 0 [⟨#[]⟩, ⟨#[97]⟩, ⟨#[101]⟩, ⟨#[97, 98, 99, 100]⟩, ⟨#[97, 97, 97, 97, 97, 97, 97, 97, 97]⟩] 5 5 _ (by omega) (S3.out.below (by repeat (first | exact Below.refl _ _ | refine Below.alloc ?_ (by simp; try omega) _ | refine Below.setCell ?_ (by simp; try omega) _))) rfl (by omega) (by omega) (by omega) ?_).mono ?_
      · intro i hi
        rw [cell_of_row _ _ _ _ _ _ (heap_alloc_new w3 _)]
        rcases (by simp at hi; omega : i = 0 ∨ i = 1 ∨ i = 2 ∨ i = 3 ∨ i = 4) with rfl | rfl | rfl | rfl | rfl <;> rfl
      rintro e w4 ⟨u, rfl, hu, hs4, hg4⟩
      have hus : u.size ≤ 20 := by
        simp at hu
        rcases hu with rfl | rfl | rfl | rfl | rfl <;> decide
      have B4 := Lib.hid (below_gb (two_worlds' B3.out (show Below w3.heap.size w3 (w3.alloc _) from (by repeat (first | exact Below.refl _ _ | refine Below.alloc ?_ (by simp; try omega) _ | refine Below.setCell ?_ (by simp; try omega) _)))) hg4 hg0)
      have O4 : Hid (w4.ownsRow w.heap.size 9 1 (.slice (some ⟨av, 0, none⟩) m cv) m (ss.map Value.string)) := (O3.out.alloc _).kept hg4 (by
        cases hv : (Value.slice (some ⟨av, 0, none⟩) m cv).ownBlock with
        | none => exact .inl rfl
        | some q => exact .inr (fun e => by injection e with e; have := HGE.out q hv; omega))
      clear hu hs4 hg4
      go_wp2
      exact bodyPost_ret (v := .tuple #[.int .i64 sg, .slice (some ⟨av, 0, none⟩) m cv, .string u]) (by simp [results, Tryd.results7, go_sem]) rfl ⟨sg, ss, av, m, cv, u, rfl, HN, hm, HZ, hus, B4.out, O4.out⟩
    | false =>
      go_wp2_with (first | (go_at_call 44; refine (min_any _ _ _).mono ?_; rintro e w' ⟨rfl, rfl⟩) | (go_at_call 43; refine (max_any _ _ _).mono ?_; rintro e w' ⟨rfl, rfl⟩) | (go_at_call 42; refine (drawWord_any _ g _ _ _ (by omega) hrg _ (by omega) S3.out).mono ?_; rintro e w4 ⟨u, rfl, hus, hs4, hg4⟩))
      have B4 := Lib.hid (below_gb B3.out hg4 hg0)
      have O4 : Hid (w4.ownsRow w.heap.size 9 1 (.slice (some ⟨av, 0, none⟩) m cv) m (ss.map Value.string)) := O3.out.kept hg4 (by
        cases hv : (Value.slice (some ⟨av, 0, none⟩) m cv).ownBlock with
        | none => exact .inl rfl
        | some q => exact .inr (fun e => by injection e with e; have := HGE.out q hv; omega))
      clear hs4 hg4
      exact bodyPost_ret (v := .tuple #[.int .i64 sg, .slice (some ⟨av, 0, none⟩) m cv, .string u]) (by simp [results, Tryd.results7, go_sem]) rfl ⟨sg, ss, av, m, cv, u, rfl, HN, hm, HZ, hus, B4.out, O4.out⟩
end Go.Proofs.YtpkkibnpjhlfmaaDoor
