/-
  The network and the setting that the laws on ways draw.
-/
import Derived.Test.YtenjigifjkfiaaaDrawNet2
namespace Go.Proofs.Ytenjigifjkfiaaa
open Go.RowKit

/-- A network of a law's own. -/
def GivesNetA (w : World) (e : Ending) (w' : World) : Prop :=
  ∃ (s : Int) (ts : List T3) (ao : Option Addr) (m c : Nat), e = .returned (.agg #[.int .i64 s, .slice ao m c]) ∧ netB s ts = true ∧ Hid (ts.length = m) ∧ m ≤ 14 ∧ Below w.heap.size w w' ∧ w'.ownsRow w.heap.size 36 3 (.slice ao m c) m (fl3 ts)
set_option maxRecDepth 100000 in
set_option maxHeartbeats 4000000 in
theorem a2Net_any (a : Option Addr) (n c : Nat) (w : World) (hc : CodeIn w.heap.size a n w) (h1 : n ≤ 4096) :
    Calls Try.prog 9 #[.slice a n c] w (GivesNetA w) := by
  have hc1 : Hid (∀ o, CodeIn (w.alloc o).heap.size a n (w.alloc o)) := fun o => by
    rcases hc with h | ⟨b, off, ha, hb, hx⟩
    · exact .inl h
    · exact .inr ⟨b, off, ha, by simp; omega, fun i hi => by obtain ⟨x, x0, x1, x2⟩ := hx i hi; exact ⟨x, x0, x1, (((Below.refl w.heap.size w).alloc (Nat.le_refl _) o).cell (p := ⟨b, off + i, none⟩) hb).trans x2⟩⟩
  clear hc
  go_enter Try.func9, Try.ntmps9
  go_wp2_with fail
  refine (from_any a n c _ (hc1.out _) h1).mono ?_
  rintro e w1 ⟨g, rfl, hs1, hb1⟩
  have hg0 : w.heap.size + 1 ≤ g := by have := hs1.1; simpa using this
  have R1 := (hb1.block w.heap.size (by simp)).trans (heap_alloc_new w _)
  have B1 := Lib.hid (Below.trans (show Below w.heap.size w (w.alloc (.cells #[.int .i64 0, .slice none 0 0] 26)) from (by repeat (first | exact Below.refl _ _ | refine Below.alloc ?_ (by simp; try omega) _ | refine Below.setCell ?_ (by simp; try omega) _))) (hb1.mono (by simp)))
  have hz1 := hb1.size
  have hgl := hs1.lt
  clear hb1 hc1
  go_wp2_with fail
  refine (drawNet_any _ g 0 _ (by omega) hs1).mono ?_
  rintro e w2 ⟨s, ts, ao, m, cp, rfl, hnet, hl, hm14, hs2, hg2, ho2⟩
  have R2 := heapn_src R1 hg2 (by omega)
  have r0 : w2.cell? ⟨w.heap.size, 0, none⟩ = some (.int .i64 0) := by rw [cell_of_row w2 _ 0 _ _ _ R2]; rfl
  have r1 : w2.cell? ⟨w.heap.size, 1, none⟩ = some (.slice none 0 0) := by rw [cell_of_row w2 _ 1 _ _ _ R2]; rfl
  have s0 := frozen_of_row w2 w.heap.size 0 _ _ R2
  have s1 := frozen_of_row w2 w.heap.size 1 _ _ R2
  have HR : Hid (∀ W, W = ((w2.setCell ⟨w.heap.size, 0, none⟩ (.int .i64 s)).setCell ⟨w.heap.size, 1, none⟩ (.slice ao m cp)) → GivesNetA w (.returned (.agg #[.int .i64 s, .slice ao m cp])) W) := by
    rintro W rfl
    refine ⟨s, ts, ao, m, cp, rfl, hnet, hl, hm14, ?_, ?_⟩
    · exact ((B1.out.grown hg2 (by simp at hz1; omega) (fun k hk => by injection hk with hk; omega)).setCell (Nat.le_refl _) _).setCell (Nat.le_refl _) _
    · exact ownn_low (ownn_set (ownn_set ho2 (by simp at hz1; omega) _ _) (by simp at hz1; omega) _ _) (by simp at hz1; omega)
  clear R1 R2 hs1 hs2 hg2 ho2
  go_wp2
  exact bodyPost_ret (v := .agg #[.int .i64 s, .slice ao m cp]) (by simp [results, Try.results9, go_sem, *]) rfl (HR.out _ rfl)
end Go.Proofs.Ytenjigifjkfiaaa
