/-
  The draws of a move and of SendCarriers.
-/
import Derived.Test.YtabopjdcpllocaaDraw8
namespace Go.Proofs.Ytabopjdcpllocaa
open Go.RowKit

/-- A move as it is drawn. -/
def DrawnM (B g K : Nat) (w : World) (e : Ending) (w' : World) : Prop :=
  ∃ f t x : Int, e = .returned (.agg #[.int .i64 f, .int .i64 t, .int .i64 x]) ∧ wfMove (f, t, x) ∧ 0 ≤ f ∧ f ≤ 65535 ∧ Src B g K w' ∧ w.grownBy w' (some g)
theorem cells3 {W : World} {q : Nat} {a b c : Value} (h : W.heap[q]? = some (.cells #[a, b, c] 44 (0, 0))) :
    W.cell? ⟨q, 0, none⟩ = some a ∧ W.cell? ⟨q, 1, none⟩ = some b ∧ W.cell? ⟨q, 2, none⟩ = some c ∧ W.frozen? ⟨q, 0, none⟩ = false ∧ W.frozen? ⟨q, 1, none⟩ = false ∧ W.frozen? ⟨q, 2, none⟩ = false := by
  refine ⟨?_, ?_, ?_, frozen_of_row W q 0 _ _ h, frozen_of_row W q 1 _ _ h, frozen_of_row W q 2 _ _ h⟩
  · rw [cell_of_row W q 0 _ _ (0, 0) h]; rfl
  · rw [cell_of_row W q 1 _ _ (0, 0) h]; rfl
  · rw [cell_of_row W q 2 _ _ (0, 0) h]; rfl
theorem heap_set_other {W : World} {q r o : Nat} {v : Value} {x : Obj} (h : W.heap[r]? = some x) (hne : r ≠ q) : (W.setCell ⟨q, o, none⟩ v).heap[r]? = some x :=
  ((grown_setCell (grown_refl W (some q)) v).block r (Array.getElem?_eq_some_iff.1 h).1 (by simp; omega)).trans h
theorem heap_src {W W' : World} {g r : Nat} {x : Obj} (h : W.heap[r]? = some x) (hg : W.grownBy W' (some g)) (hne : r ≠ g) : W'.heap[r]? = some x :=
  (hg.block r (Array.getElem?_eq_some_iff.1 h).1 (by simp; omega)).trans h

set_option maxRecDepth 100000 in
set_option maxHeartbeats 8000000 in
theorem drawMove_any (B g K m : Nat) (hm : m ≤ 11) (w : World) (hK : K < 100000) (h : Src B g K w) :
    Calls Try.prog 51 #[.pointer (some ⟨g, 0, none⟩), .int .i64 (m : Int)] w (DrawnM B g (K + 10) w) := by
  have hgl := h.lt
  go_enter Try.func51, Try.ntmps51
  go_wp2_with fail
  refine (pick_any B g K (m : Int) (by omega) _ (by omega) (h.alloc _)).mono ?_
  rintro e w1 ⟨f, rfl, ⟨hf0, hf1, hf2⟩, hs1, hg1⟩
  have R1 := heap_src (heap_alloc_new w _) hg1 (by omega)
  have G1 := gb_trans (gb_alloc (grown_refl w (some g)) _) hg1
  go_wp2_with fail
  refine (pick_any B g _ (m : Int) (by omega) _ (by omega) hs1).mono ?_
  rintro e w2 ⟨t, rfl, ⟨ht0, ht1, ht2⟩, hs2, hg2⟩
  have R2 := heap_src R1 hg2 (by omega)
  have G2 := gb_trans G1 hg2
  have hz2 := G2.size
  have hrl : w.heap.size < w2.heap.size := (Array.getElem?_eq_some_iff.1 R2).1
  clear R1 G1 hg1 hg2 hs1 h
  go_wp2_with fail
  refine (pick_any B g _ 4 (by omega) _ (by omega) (hs2.alloc _)).mono ?_
  rintro e w3 ⟨x, rfl, ⟨hx0, hx1, hx2⟩, hs3, hg3⟩
  have Q3 := heap_src (heap_alloc_new w2 _) hg3 (by omega)
  have R3 := heap_src ((Below.heap_alloc _ _ _ hrl).trans R2) hg3 (by omega)
  have G3 := gb_trans (gb_alloc G2 _) hg3
  obtain ⟨_, _, c2, _, _, z2⟩ := cells3 Q3
  have Q3' := heap_setCell_same _ _ 2 _ _ (.int .i64 (1 + x)) Q3
  have Q3s : (w3.setCell ⟨w2.heap.size, 2, none⟩ (.int .i64 (1 + x))).heap[w2.heap.size]? = some (.cells #[.int .i64 f, .int .i64 t, .int .i64 (1 + x)] 44 (0, 0)) := Q3'
  have R3s := heap_set_other (q := w2.heap.size) (o := 2) (v := .int .i64 (1 + x)) R3 (by omega)
  have S3s := hs3.set (q := w2.heap.size) (by omega) 2 (.int .i64 (1 + x))
  have G3s := gb_set (q := w2.heap.size) G3 (by omega) 2 (.int .i64 (1 + x))
  clear R2 G2 hg3 hs2 Q3 Q3' R3 hs3 G3
  have S3 := Lib.hid S3s
  have RS := Lib.hid (And.intro Q3s (And.intro R3s G3s))
  clear S3s Q3s R3s G3s
  go_wp2_with fail
  refine (pick_any B g _ 16 (by omega) _ (by omega) S3.out).mono ?_
  rintro e w4 ⟨d, rfl, ⟨hd0, hd1, hd2⟩, hs4, hg4⟩
  have Q4 := heap_src RS.out.1 hg4 (by omega)
  have R4 := heap_src RS.out.2.1 hg4 (by omega)
  have G4 := gb_trans RS.out.2.2 hg4
  clear c2 z2 S3 RS hg4
  have hxw : (Lit.int .i64 (1 + x)).wf = true := wf_i64 (by omega) (by omega)
  have hfw : (Lit.int .i64 f).wf = true := wf_i64 (by omega) (by omega)
  have htw : (Lit.int .i64 t).wf = true := wf_i64 (by omega) (by omega)
  rcases (by omega : d = 0 ∨ d = 1 ∨ (¬ d = 0 ∧ ¬ d = 1)) with hd | hd | hd
  · subst hd
    have S4 := Lib.hid hs4
    go_wp2_with fail
    refine (among_new B g _ [-1, 0, 1, 200, 201] 5 w4 (by omega) S4.out rfl (by omega) (by omega)).mono ?_
    rintro e w5 ⟨v, rfl, hv, hs5, hg5⟩
    have hvw : (Lit.int .i64 v).wf = true := by
      simp at hv
      exact wf_i64 (by omega) (by omega)
    have Q5 := heap_src Q4 hg5 (by omega)
    have R5 := heap_src R4 hg5 (by omega)
    have G5 := gb_trans G4 hg5
    obtain ⟨c0, c1, c2, _, _, z2⟩ := cells3 Q5
    obtain ⟨r0, r1, r2, y0, y1, y2⟩ := cells3 R5
    have HR : Hid (∀ W, W = ((((w5.setCell ⟨w2.heap.size, 2, none⟩ (.int .i64 v)).setCell ⟨w.heap.size, 0, none⟩ (.int .i64 f)).setCell ⟨w.heap.size, 1, none⟩ (.int .i64 t)).setCell ⟨w.heap.size, 2, none⟩ (.int .i64 v)) → DrawnM B g (K + 10) w (.returned (.agg #[.int .i64 f, .int .i64 t, .int .i64 v])) W) := by
      rintro W rfl
      exact ⟨f, t, v, rfl, ⟨hfw, htw, hvw⟩, hf0, hf1, ((((hs5.set (by omega) _ _).set hgl _ _).set hgl _ _).set hgl _ _).more (by omega), gb_set (gb_set (gb_set (gb_set G5 (by omega) _ _) (Nat.le_refl _) _ _) (Nat.le_refl _) _ _) (Nat.le_refl _) _ _⟩
    have hne : w2.heap.size ≠ w.heap.size := by omega
    have hne' : w.heap.size ≠ w2.heap.size := by omega
    clear Q4 R4 G4 Q5 R5 G5 hs5 hg5 hs4 S4 hv
    go_wp2
    exact bodyPost_ret (v := .agg #[.int .i64 f, .int .i64 t, .int .i64 v]) (by simp [results, Try.results51, go_sem, *]) rfl (HR.out _ rfl)
  · subst hd
    have S4 := Lib.hid hs4
    go_wp2_with fail
    refine (among_new B g _ [-1, 0, (m : Int) - 1, (m : Int)] 4 w4 (by omega) S4.out rfl (by omega) (by omega)).mono ?_
    rintro e w5 ⟨v, rfl, hv, hs5, hg5⟩
    have hvw : (Lit.int .i64 v).wf = true := by
      simp at hv
      exact wf_i64 (by omega) (by omega)
    have Q5 := heap_src Q4 hg5 (by omega)
    have R5 := heap_src R4 hg5 (by omega)
    have G5 := gb_trans G4 hg5
    obtain ⟨c0, c1, c2, _, z1, _⟩ := cells3 Q5
    obtain ⟨r0, r1, r2, y0, y1, y2⟩ := cells3 R5
    have HR : Hid (∀ W, W = ((((w5.setCell ⟨w2.heap.size, 1, none⟩ (.int .i64 v)).setCell ⟨w.heap.size, 0, none⟩ (.int .i64 f)).setCell ⟨w.heap.size, 1, none⟩ (.int .i64 v)).setCell ⟨w.heap.size, 2, none⟩ (.int .i64 (1 + x))) → DrawnM B g (K + 10) w (.returned (.agg #[.int .i64 f, .int .i64 v, .int .i64 (1 + x)])) W) := by
      rintro W rfl
      exact ⟨f, v, 1 + x, rfl, ⟨hfw, hvw, hxw⟩, hf0, hf1, ((((hs5.set (by omega) _ _).set hgl _ _).set hgl _ _).set hgl _ _).more (by omega), gb_set (gb_set (gb_set (gb_set G5 (by omega) _ _) (Nat.le_refl _) _ _) (Nat.le_refl _) _ _) (Nat.le_refl _) _ _⟩
    have hne : w2.heap.size ≠ w.heap.size := by omega
    have hne' : w.heap.size ≠ w2.heap.size := by omega
    clear Q4 R4 G4 Q5 R5 G5 hs5 hg5 hs4 S4 hv
    go_wp2
    exact bodyPost_ret (v := .agg #[.int .i64 f, .int .i64 v, .int .i64 (1 + x)]) (by simp [results, Try.results51, go_sem, *]) rfl (HR.out _ rfl)
  · have g0 : (d == 0) = false := by simp; omega
    have g1 : (d == 1) = false := by simp; omega
    obtain ⟨c0, c1, c2, _, _, _⟩ := cells3 Q4
    obtain ⟨r0, r1, r2, y0, y1, y2⟩ := cells3 R4
    have HR : Hid (∀ W, W = (((w4.setCell ⟨w.heap.size, 0, none⟩ (.int .i64 f)).setCell ⟨w.heap.size, 1, none⟩ (.int .i64 t)).setCell ⟨w.heap.size, 2, none⟩ (.int .i64 (1 + x))) → DrawnM B g (K + 10) w (.returned (.agg #[.int .i64 f, .int .i64 t, .int .i64 (1 + x)])) W) := by
      rintro W rfl
      exact ⟨f, t, 1 + x, rfl, ⟨hfw, htw, hxw⟩, hf0, hf1, (((hs4.set hgl _ _).set hgl _ _).set hgl _ _).more (by omega), gb_set (gb_set (gb_set G4 (Nat.le_refl _) _ _) (Nat.le_refl _) _ _) (Nat.le_refl _) _ _⟩
    have hne : w2.heap.size ≠ w.heap.size := by omega
    have hne' : w.heap.size ≠ w2.heap.size := by omega
    clear Q4 R4 G4 hs4
    go_wp2
    exact bodyPost_ret (v := .agg #[.int .i64 f, .int .i64 t, .int .i64 (1 + x)]) (by simp [results, Try.results51, go_sem, *]) rfl (HR.out _ rfl)
end Go.Proofs.Ytabopjdcpllocaa
