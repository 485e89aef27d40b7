/-
  The draw of a tube and of a network.
-/
import Derived.Test.YtenjigifjkfiaaaSrc
import Derived.Test.YtenjigifjkfiaaaNetMath
import Derived.Deep.AppendLies
namespace Go.Proofs.Ytenjigifjkfiaaa
open Go.RowKit

theorem gbn_alloc {a b : World} {g : Nat} (h : a.grownBy b (some g)) (o : Obj) : a.grownBy (b.alloc o) (some g) :=
  ⟨h.os, h.tape, h.output, Nat.le_trans h.size (by simp), fun i hi hne => (Below.heap_alloc _ _ _ (Nat.lt_of_lt_of_le hi h.size)).trans (h.block i hi hne)⟩
theorem gbn_own {a b c : World} {g : Nat} {row : Option Nat} (h : a.grownBy b (some g)) (k : b.grownBy c row) (hr : ∀ q, row = some q → a.heap.size ≤ q) : a.grownBy c (some g) :=
  ⟨k.os.trans h.os, k.tape.trans h.tape, k.output.trans h.output, Nat.le_trans h.size k.size, fun i hi hne => (k.block i (Nat.lt_of_lt_of_le hi h.size) (fun e => by have := hr i e.symm; omega)).trans (h.block i hi hne)⟩
theorem gbn_set {a b : World} {g q : Nat} (h : a.grownBy b (some g)) (hq : a.heap.size ≤ q) (o : Nat) (v : Value) : a.grownBy (b.setCell ⟨q, o, none⟩ v) (some g) :=
  gbn_own h (grown_setCell (grown_refl b (some q)) v) (fun k hk => by injection hk with hk; omega)
theorem srcn_own {B g K lo : Nat} {w w' : World} {row : Option Nat} (hs : Src B g K w) (hg : w.grownBy w' row) (hr : ∀ q, row = some q → lo ≤ q) (hlo : g < lo) : Src B g K w' := by
  have hlt := hs.lt
  obtain ⟨h0, a, n, c, t, s, h1, h2, h3, h4⟩ := hs
  exact ⟨h0, a, n, c, t, s, h1.same (fun b o hbB => World.cell?_of_block (w := w) (hg.block b (by omega) (fun e => by have := hr b e.symm; omega))), h2, h3, (hg.block g hlt (fun e => by have := hr g e.symm; omega)).trans h4⟩
theorem srcn_set {B g K q : Nat} {w : World} (hs : Src B g K w) (hq : g < q) (o : Nat) (v : Value) : Src B g K (w.setCell ⟨q, o, none⟩ v) :=
  srcn_own hs (grown_setCell (grown_refl w (some q)) v) (lo := q) (fun k hk => by injection hk with hk; omega) hq
theorem srcn_alloc {B g K : Nat} {w : World} (hs : Src B g K w) (o : Obj) : Src B g K (w.alloc o) := hs.below ((Below.refl _ _).alloc (Nat.le_refl _) _)
theorem cellsT {W : World} {q : Nat} {a b c : Value} (h : W.heap[q]? = some (.cells #[a, b, c] 36 (0, 0))) :
    W.cell? ⟨q, 0, none⟩ = some a ∧ W.cell? ⟨q, 1, none⟩ = some b ∧ W.cell? ⟨q, 2, none⟩ = some c ∧ W.frozen? ⟨q, 0, none⟩ = false ∧ W.frozen? ⟨q, 1, none⟩ = false ∧ W.frozen? ⟨q, 2, none⟩ = false := by
  refine ⟨?_, ?_, ?_, frozen_of_row W q 0 _ _ h, frozen_of_row W q 1 _ _ h, frozen_of_row W q 2 _ _ h⟩
  · rw [cell_of_row W q 0 _ _ (0, 0) h]; rfl
  · rw [cell_of_row W q 1 _ _ (0, 0) h]; rfl
  · rw [cell_of_row W q 2 _ _ (0, 0) h]; rfl
theorem heapn_other {W : World} {q r o : Nat} {v : Value} {x : Obj} (h : W.heap[r]? = some x) (hne : r ≠ q) : (W.setCell ⟨q, o, none⟩ v).heap[r]? = some x :=
  ((grown_setCell (grown_refl W (some q)) v).block r (Array.getElem?_eq_some_iff.1 h).1 (by simp; omega)).trans h
theorem heapn_src {W W' : World} {g r : Nat} {x : Obj} (h : W.heap[r]? = some x) (hg : W.grownBy W' (some g)) (hne : r ≠ g) : W'.heap[r]? = some x :=
  (hg.block r (Array.getElem?_eq_some_iff.1 h).1 (by simp; omega)).trans h
/-- A tube as it is drawn. -/
def DrawnT (B g K : Nat) (st : Int) (w : World) (e : Ending) (w' : World) : Prop :=
  ∃ f t x : Int, e = .returned (.agg #[.int .i64 f, .int .i64 t, .int .i64 x]) ∧ tubeB st (f, t, x) = true ∧ Src B g K w' ∧ w.grownBy w' (some g)
theorem step_apart {f u st : Int} (h0 : 0 ≤ f) (h1 : f < st) (h2 : 0 ≤ u) (h3 : u < st - 1) : ¬ f = (f + 1 + u) % st := by
  intro h
  by_cases hc : f + 1 + u < st
  · rw [Int.emod_eq_of_lt (by omega) hc] at h; omega
  · have e : (f + 1 + u) % st = f + 1 + u - st := by
      rw [show f + 1 + u = (f + 1 + u - st) + st by omega, Int.add_emod_right, Int.emod_eq_of_lt (by omega) (by omega)]
      omega
    omega

set_option maxRecDepth 100000 in
set_option maxHeartbeats 8000000 in
theorem drawTube_any (B g K : Nat) (st : Int) (hst : 2 ≤ st) (hst2 : st ≤ 10) (w : World) (hK : K < 100000) (h : Src B g K w) :
    Calls Try.prog 66 #[.pointer (some ⟨g, 0, none⟩), .int .i64 st] w (DrawnT B g (K + 6) st w) := by
  have hgl := h.lt
  go_enter Try.func66, Try.ntmps66
  go_wp2_with fail
  refine (pick_any B g K st (by omega) _ (by omega) (srcn_alloc h _)).mono ?_
  rintro e w1 ⟨f, rfl, ⟨hf0, hf1, hf2⟩, hs1, hg1⟩
  have R1 := heapn_src (heap_alloc_new w _) hg1 (by omega)
  have G1 := gb_trans (gbn_alloc (grown_refl w (some g)) _) hg1
  have hz1 := G1.size
  have hrl : w.heap.size < w1.heap.size := (Array.getElem?_eq_some_iff.1 R1).1
  have hfs : f < st := by omega
  have S1d : Hid (Src B g (K + 2) (w1.alloc (.cells #[.int .i64 f, .int .i64 0, .int .i64 0] 36)).drew) := (srcn_alloc hs1 _).below (Below.refl _ _).drew
  have Q1 : (w1.alloc (.cells #[.int .i64 f, .int .i64 0, .int .i64 0] 36)).drew.heap[w1.heap.size]? = some (.cells #[.int .i64 f, .int .i64 0, .int .i64 0] 36 (0, 0)) := heap_alloc_new w1 _
  have R1d : (w1.alloc (.cells #[.int .i64 f, .int .i64 0, .int .i64 0] 36)).drew.heap[w.heap.size]? = _ := (Below.heap_alloc _ _ _ hrl).trans R1
  have G1d : w.grownBy (w1.alloc (.cells #[.int .i64 f, .int .i64 0, .int .i64 0] 36)).drew (some g) := gb_drewN (gbn_alloc G1 _) 1
  have HW := Lib.hid (And.intro Q1 (And.intro R1d G1d))
  have c0 := (cellsT Q1).1
  have hwr : IntKind.i64.wrap (f + 1) = f + 1 := IntWalk.i64_in _ (by omega)
  have hws : IntKind.i64.wrap (st - 1) = st - 1 := IntWalk.i64_in _ (by omega)
  have hn0 : ¬ st = 0 := by omega
  have hnb : (st == 0) = false := by simp; omega
  clear R1 G1 hg1 hs1 h Q1 R1d G1d
  go_wp2_with fail
  go_region_held3 (fun w' => w'.cell? ⟨w1.heap.size, 0, none⟩ = some (.int .i64 f)) (first | exact c0 | exact c2 | exact (World.cell?_setCell_other _ _ _ _ (by simp)).trans c2)
    (first | (go_at_call 42; refine (pick_any B g _ (st - 1) (by omega) _ (by omega) S1d.out).mono ?_; rintro e w2 ⟨u, rfl, ⟨hu0, hu1, hu2⟩, hs2, hg2⟩; have Q2 := heapn_src HW.out.1 hg2 (by omega); have c2 := (cellsT Q2).1; have f2 := (cellsT Q2).2.2.2.2.1; have d2 := (cellsT Q2).2.1; have hw2 : IntKind.i64.wrap (f + 1 + u) = f + 1 + u := IntWalk.i64_in _ (by omega); have htm : Int.tmod (f + 1 + u) st = (f + 1 + u) % st := Int.tmod_eq_emod_of_nonneg (by omega); have hb0 := Int.emod_nonneg (f + 1 + u) hn0; have hb1 := Int.emod_lt_of_pos (f + 1 + u) (show 0 < st by omega); have hne := step_apart hf0 hfs hu0 (show u < st - 1 by omega); have hwt : IntKind.i64.wrap ((f + 1 + u) % st) = (f + 1 + u) % st := IntWalk.i64_in _ (by omega)))
  all_goals
    clear htm hwt hw2
    generalize hvv : (f + 1 + u) % st = v at hb0 hb1 hne ⊢
    clear hvv
    have R2 := heapn_src HW.out.2.1 hg2 (by omega)
    have G2 := gb_trans HW.out.2.2 hg2
    have hz2 := hg2.size
    have Q3' := heap_setCell_same _ _ 1 _ _ (.int .i64 v) Q2
    have Q3 : (w2.setCell ⟨w1.heap.size, 1, none⟩ (.int .i64 v)).heap[w1.heap.size]? = some (.cells #[.int .i64 f, .int .i64 v, .int .i64 0] 36 (0, 0)) := Q3'
    have R3 := heapn_other (q := w1.heap.size) (o := 1) (v := .int .i64 v) R2 (by omega)
    have S3 := Lib.hid (srcn_set (q := w1.heap.size) hs2 (by omega) 1 (.int .i64 v))
    have G3 := gbn_set (q := w1.heap.size) G2 hz1 1 (.int .i64 v)
    generalize (w2.setCell ⟨w1.heap.size, 1, none⟩ (.int .i64 v)) = w3 at Q3 R3 S3 G3 ⊢
    clear hs2 hg2 Q2 c2 f2 d2 Q3' R2 G2 HW S1d hz2
    go_wp2_with fail
    refine (pick_any B g _ 20 (by omega) _ (by omega) S3.out).mono ?_
    rintro e w4 ⟨x, rfl, ⟨hx0, hx1, hx2⟩, hs4, hg4⟩
    have hxs : x ≤ 19 := by omega
    have Q4 := heapn_src Q3 hg4 (by omega)
    have R4 := heapn_src R3 hg4 (by omega)
    have G4 := gb_trans G3 hg4
    obtain ⟨c0', c1', c2', z0, z1, z2⟩ := cellsT Q4
    obtain ⟨r0, r1, r2, y0, y1, y2⟩ := cellsT R4
    have HR : Hid (∀ W y, y = 10 * (1 + x) → W = ((((w4.setCell ⟨w1.heap.size, 2, none⟩ (.int .i64 y)).setCell ⟨w.heap.size, 0, none⟩ (.int .i64 f)).setCell ⟨w.heap.size, 1, none⟩ (.int .i64 v)).setCell ⟨w.heap.size, 2, none⟩ (.int .i64 y)) → DrawnT B g (K + 6) st w (.returned (.agg #[.int .i64 f, .int .i64 v, .int .i64 y])) W) := by
      rintro W y rfl rfl
      refine ⟨f, v, _, rfl, ?_, (srcn_set (srcn_set (srcn_set (srcn_set hs4 (by omega) _ _) hgl _ _) hgl _ _) hgl _ _).more (by omega), gbn_set (gbn_set (gbn_set (gbn_set G4 hz1 _ _) (Nat.le_refl _) _ _) (Nat.le_refl _) _ _) (Nat.le_refl _) _ _⟩
      unfold tubeB
      exact decide_eq_true (by simp only; omega)
    have hne1 : w1.heap.size ≠ w.heap.size := by omega
    have hne2 : w.heap.size ≠ w1.heap.size := by omega
    clear Q3 R3 S3 G3 Q4 R4 G4 hs4 hg4
    go_wp2
    exact bodyPost_ret (v := .agg #[.int .i64 f, .int .i64 v, .int .i64 (10 * (1 + x))]) (by simp [results, Try.results66, go_sem, *]) rfl (HR.out _ _ rfl rfl)
end Go.Proofs.Ytenjigifjkfiaaa
