/-
  The walk of the law FnExactAddChange: it returns true at every input.
-/
import Derived.Test.YtghpefdleiebmaaZAddSpec
import Derived.Test.YtghpefdleiebmaaZAddImpl
import Derived.Test.YtghpefdleiebmaaHeldZ
import Derived.Deep.DeepCutAuto
namespace Go.Proofs.Ytghpefdleiebmaa
open Go.RowKit
theorem insL_len (l : List C3) (c : C3) : (insL l c).length ≤ 2 * l.length + 1 := by
  unfold insL
  rw [List.length_append, List.length_cons]
  have h1 := List.length_filter_le (fun x => @decide (ltC x c) (Classical.propDecidable _)) l
  have h2 := List.length_filter_le (fun x => @decide (ltC c x) (Classical.propDecidable _)) l
  omega
theorem addZ_len (t : TZoned) (c : C3) (h : t.2.1.length ≤ 1048576) (h2 : t.2.2.length ≤ 1048576) : (addZ t c).1.2.1.length ≤ 1048577 ∧ (addZ t c).1.2.2.length ≤ 1048577 := by
  unfold addZ
  split
  · split
    · split
      · simp
      · split
        · simp
        · have := insL_len t.2.2 c
          dsimp only
          omega
    · simp
  · simp
def Bk (w : World) (k : Nat) (x y z : Value) (T : TypeId) : Prop := w.heap[k]? = some (.cells #[x, y, z] T (0, 0))
theorem Bk.below {w w' : World} {k : Nat} {x y z : Value} {T : TypeId} (h : Bk w k x y z T) (g : Below w.heap.size w w') : Bk w' k x y z T := (g.block k (Array.getElem?_eq_some_iff.1 h).1).trans h
theorem Bk.lt {w : World} {k : Nat} {x y z : Value} {T : TypeId} (h : Bk w k x y z T) : k < w.heap.size := (Array.getElem?_eq_some_iff.1 h).1
theorem Bk.cells {w : World} {k : Nat} {x y z : Value} {T : TypeId} (h : Bk w k x y z T) : (w.cell? ⟨k, 0, none⟩ = some x ∧ w.cell? ⟨k, 1, none⟩ = some y ∧ w.cell? ⟨k, 2, none⟩ = some z) ∧ w.frozen? ⟨k, 0, none⟩ = false ∧ w.frozen? ⟨k, 1, none⟩ = false ∧ w.frozen? ⟨k, 2, none⟩ = false := by
  refine ⟨⟨?_, ?_, ?_⟩, frozen_of_row w k 0 _ T h, frozen_of_row w k 1 _ T h, frozen_of_row w k 2 _ T h⟩
  · rw [cell_of_row w k 0 _ T (0, 0) h]; rfl
  · rw [cell_of_row w k 1 _ T (0, 0) h]; rfl
  · rw [cell_of_row w k 2 _ T (0, 0) h]; rfl
theorem bk_new {V w' : World} {x y z : Value} {T : TypeId} (hb : Below (V.alloc (.cells #[x, y, z] T (0, 0))).heap.size (V.alloc (.cells #[x, y, z] T (0, 0))) w') : Bk w' V.heap.size x y z T := (hb.block _ (by simp)).trans (heap_alloc_new V _)
theorem bk_store {W : World} {k : Nat} {a b c : Value} {T : TypeId} (h : Bk W k a b c T) (x y z : Value) : Bk (((W.setCell ⟨k, 0, none⟩ x).setCell ⟨k, 1, none⟩ y).setCell ⟨k, 2, none⟩ z) k x y z T :=
  heap_setCell_same _ _ _ _ _ _ (heap_setCell_same _ _ _ _ _ _ (heap_setCell_same _ _ _ _ _ _ h))
theorem Bk.box {w : World} {k : Nat} {x y z : Value} {T : TypeId} (h : Bk w k x y z T) : Box w k [x, y, z] := by
  refine ⟨h.lt, fun j v hj => ?_⟩
  obtain ⟨⟨h0, h1, h2⟩, _⟩ := h.cells
  match j, hj with
  | 0, hj => obtain rfl : _ = v := Option.some.inj hj; exact h0
  | 1, hj => obtain rfl : _ = v := Option.some.inj hj; exact h1
  | 2, hj => obtain rfl : _ = v := Option.some.inj hj; exact h2
  | j + 3, hj => simp at hj
theorem owz_store {lo hi k : Nat} {va vb : Value} {t : TZoned} {W : World} (h : OwZ lo hi va vb t W) (hk : k < lo) (x y z : Value) : OwZ lo hi va vb t (((W.setCell ⟨k, 0, none⟩ x).setCell ⟨k, 1, none⟩ y).setCell ⟨k, 2, none⟩ z) :=
  ⟨row_setCell (row_setCell (row_setCell h.1 hk x) hk y) hk z, row_setCell (row_setCell (row_setCell h.2.1 hk x) hk y) hk z, h.2.2⟩
theorem below_store {B : Nat} {a W : World} (h : Below B a W) {k : Nat} (hk : B ≤ k) (x y z : Value) : Below B a (((W.setCell ⟨k, 0, none⟩ x).setCell ⟨k, 1, none⟩ y).setCell ⟨k, 2, none⟩ z) :=
  ((h.setCell (by exact hk) _).setCell (by exact hk) _).setCell (by exact hk) _
theorem Box.three {w : World} {k : Nat} {x y z : Value} (h : Box w k [x, y, z]) : w.cell? ⟨k, 0, none⟩ = some x ∧ w.cell? ⟨k, 1, none⟩ = some y ∧ w.cell? ⟨k, 2, none⟩ = some z := ⟨h.2 0 _ rfl, h.2 1 _ rfl, h.2 2 _ rfl⟩
end Go.Proofs.Ytghpefdleiebmaa
namespace Go.Proofs.Ytghpefdleiebmaa.fnExactAddChange
open Go.RowKit
set_option maxRecDepth 100000 in
set_option maxHeartbeats 20000000 in
theorem walk {w : World} (v0 : Value) (t0 : TZoned) (hw0 : ZonedIn w v0 t0) (v1 : Value) (t1 : TChange) (hw1 : ChangeIn v1 t1) :
    Calls Try.prog 4 #[v0, v1] w fun e w' => e = .returned (.bool true) ∧ Below w.heap.size w w' := by
  obtain ⟨a0, n0, c0, b0, m0, d0, rfl, hn0, hmax0, hr0, hy0, hmay0, hq0, wf0⟩ := hw0
  have WF0 := Lib.hid wf0
  have HA0 : Hid (∀ w', Below w.heap.size w w' → RI w' a0 t0.2.1) := fun w' h => hr0.below h
  have HC0 : Hid (∀ w', Below w.heap.size w w' → RR 3 cChange w' b0 t0.2.2) := fun w' h => hq0.below h
  have HM0 := Lib.hid hmax0
  have HN0 := Lib.hid hmay0
  unfold maxLen at hmax0 hmay0
  clear hr0 hq0 wf0
  obtain ⟨rfl, wf1⟩ := hw1
  have WF1 := Lib.hid wf1
  clear wf1
  have BB : Hid (Below w.heap.size w w) := Below.refl _ _
  have PB0_ := Box.alloc w [.int .i64 t0.1, .slice a0 n0 c0, .slice b0 m0 d0] 47
  have hb1 : Hid (Below w.heap.size w (w.alloc (.cells #[.int .i64 t0.1, .slice a0 n0 c0, .slice b0 m0 d0] 47))) := (Below.refl _ _).alloc (Nat.le_refl _) _
  replace BB := Lib.hid (Below.trans BB.out (Hid.out hb1 |>.mono BB.out.size))
  have PB1_ : Box ((w.alloc (.cells #[.int .i64 t0.1, .slice a0 n0 c0, .slice b0 m0 d0] 47)).alloc (.cells #[.int .i64 t1.1, .int .i64 t1.2.1, .int .i64 t1.2.2] 49)) (w.heap.size + 1) [.int .i64 t1.1, .int .i64 t1.2.1, .int .i64 t1.2.2] := by have h := Box.alloc (w.alloc (.cells #[.int .i64 t0.1, .slice a0 n0 c0, .slice b0 m0 d0] 47)) [.int .i64 t1.1, .int .i64 t1.2.1, .int .i64 t1.2.2] 49; rw [show (w.alloc (.cells #[.int .i64 t0.1, .slice a0 n0 c0, .slice b0 m0 d0] 47)).heap.size = (w.heap.size + 1) by simp] at h; exact h
  have hb2 : Hid (Below (w.alloc (.cells #[.int .i64 t0.1, .slice a0 n0 c0, .slice b0 m0 d0] 47)).heap.size (w.alloc (.cells #[.int .i64 t0.1, .slice a0 n0 c0, .slice b0 m0 d0] 47)) ((w.alloc (.cells #[.int .i64 t0.1, .slice a0 n0 c0, .slice b0 m0 d0] 47)).alloc (.cells #[.int .i64 t1.1, .int .i64 t1.2.1, .int .i64 t1.2.2] 49))) := (Below.refl _ _).alloc (Nat.le_refl _) _
  replace BB := Lib.hid (Below.trans BB.out (Hid.out hb2 |>.mono BB.out.size))
  have PB0 := Lib.hid PB0_
  clear PB0_
  have PB1 := Lib.hid PB1_
  clear PB1_
  go_enter Try.func4, Try.ntmps4
  have pc0 := ((PB0.out.below hb2.out)).2
  have pc0_0 := pc0 0 _ rfl
  have pc0_1 := pc0 1 _ rfl
  have pc0_2 := pc0 2 _ rfl
  clear pc0
  go_wp2_with fail
  refine (szZoned_any _ _ _ _ _ _ _ 1048576 _ (by omega) (by omega) HM0.out HN0.out).mono ?_
  rintro e w3 ⟨rfl, hbx⟩
  have hb3 := Lib.hid hbx
  replace BB := Lib.hid (Below.trans BB.out (Hid.out hb3 |>.mono BB.out.size))
  clear hbx
  clear pc0_0 pc0_1 pc0_2
  have hbd := szZ_bounds 1048576 n0 m0 (by omega)
  generalize hL : szZ 1048576 n0 m0 = L0 at hbd ⊢
  clear hL
  by_cases hneg : L0 < 0
  · clear hbd
    go_wp2
    go_ret
    exact ⟨rfl, BB.out⟩
  obtain ⟨_, hle0, hall⟩ := hbd
  have hs0 : n0 ≤ 1048576 := by have := (hall (by omega)).1; omega
  have ht0 : m0 ≤ 1048576 := by have := (hall (by omega)).2; omega
  have hge0 : 0 ≤ L0 := by omega
  clear hneg hall
  obtain ⟨r, rc, hres⟩ : ∃ r rc, addZ t0 t1 = (r, rc) := ⟨_, _, rfl⟩
  have hlen := addZ_len t0 t1 (by rw [hn0.out]; exact hs0) (by rw [hy0.out]; exact ht0)
  rw [hres] at hlen
  dsimp only at hlen
  have RES := Lib.hid hres
  clear hres
  obtain ⟨nr, hnr⟩ : ∃ nr, r.2.1.length = nr := ⟨_, rfl⟩
  obtain ⟨mr, hmr⟩ : ∃ mr, r.2.2.length = mr := ⟨_, rfl⟩
  rw [hnr, hmr] at hlen
  have HNR := Lib.hid hnr
  have HMR := Lib.hid hmr
  clear hnr hmr
  obtain ⟨hnr, hmr⟩ := hlen
  have HNM : Hid (nr ≤ maxLen) := by unfold Hid maxLen; omega
  have HMM : Hid (mr ≤ maxLen) := by unfold Hid maxLen; omega
  have PBa := Lib.hid ((PB0.out.below hb2.out).below hb3.out)
  have PBb := Lib.hid (PB1.out.below hb3.out)
  have HP : Hid (∀ w', Below w3.heap.size w3 w' → (w'.cell? ⟨w.heap.size, 0, none⟩ = some (.int .i64 t0.1) ∧ w'.cell? ⟨w.heap.size, 1, none⟩ = some (.slice a0 n0 c0) ∧ w'.cell? ⟨w.heap.size, 2, none⟩ = some (.slice b0 m0 d0)) ∧ w'.cell? ⟨w.heap.size + 1, 0, none⟩ = some (.int .i64 t1.1) ∧ w'.cell? ⟨w.heap.size + 1, 1, none⟩ = some (.int .i64 t1.2.1) ∧ w'.cell? ⟨w.heap.size + 1, 2, none⟩ = some (.int .i64 t1.2.2)) := fun w' h => ⟨(PBa.out.below h).three, (PBb.out.below h).three⟩
  have HAX : Hid (∀ W, Below w3.heap.size w3 W → RI W a0 t0.2.1) := fun W h => HA0.out W (two_worlds BB.out h)
  have HCX : Hid (∀ W, Below w3.heap.size w3 W → RR 3 cChange W b0 t0.2.2) := fun W h => HC0.out W (two_worlds BB.out h)
  have hA3 : w.heap.size + 1 < w3.heap.size := PBb.out.1
  clear PBa PBb PB0 PB1 hb1 hb2 hb3 HA0 HC0
  have HS : Hid (∀ w', Below w3.heap.size w3 w' → w'.cell? ⟨w.heap.size, 0, none⟩ = some (.int .i64 t0.1) ∧ w'.cell? ⟨w.heap.size, 1, none⟩ = some (.slice a0 n0 c0) ∧ w'.cell? ⟨w.heap.size, 2, none⟩ = some (.slice b0 m0 d0) ∧ w'.cell? ⟨w.heap.size + 1, 0, none⟩ = some (.int .i64 t1.1) ∧ w'.cell? ⟨w.heap.size + 1, 1, none⟩ = some (.int .i64 t1.2.1) ∧ w'.cell? ⟨w.heap.size + 1, 2, none⟩ = some (.int .i64 t1.2.2)) := fun w' h => have q := HP.out w' h; ⟨q.1.1, q.1.2.1, q.1.2.2, q.2⟩
  have HAV := HAX
  have HCV := HCX
  obtain ⟨⟨p0, p1, p2⟩, p3, p4, p5⟩ := HP.out w3 (Below.refl _ _)
  go_upto_region 5 with fail
  go_cut [6, 7] (fun s6 s7 wx => ∃ (bw : Nat) (aw : Option Addr) (cw : Nat) (ew : Option Addr) (dw lw hw : Nat), s6 = .pointer (some ⟨bw, 0, none⟩) ∧ s7 = .int .i64 rc ∧ Hid (Below w3.heap.size w3 wx) ∧ Hid (Box wx bw [.int .i64 r.1, .slice aw nr cw, .slice ew mr dw]) ∧ Hid (OwZ lw hw (.slice aw nr cw) (.slice ew mr dw) r wx) ∧ Hid (w3.heap.size ≤ bw ∧ (bw < lw ∨ hw ≤ bw) ∧ w3.heap.size ≤ lw ∧ hw ≤ wx.heap.size))
  case first => as_aux_lemma =>
    go_region_held3 (fun w' => w'.cell? ⟨w.heap.size, 0, none⟩ = some (.int .i64 t0.1) ∧ w'.cell? ⟨w.heap.size, 1, none⟩ = some (.slice a0 n0 c0) ∧ w'.cell? ⟨w.heap.size, 2, none⟩ = some (.slice b0 m0 d0) ∧ w'.cell? ⟨w.heap.size + 1, 0, none⟩ = some (.int .i64 t1.1) ∧ w'.cell? ⟨w.heap.size + 1, 1, none⟩ = some (.int .i64 t1.2.1) ∧ w'.cell? ⟨w.heap.size + 1, 2, none⟩ = some (.int .i64 t1.2.2))
      (exact HS.out _ (by (repeat (first | exact Below.refl _ _ | exact D4a.out | exact D3a.out | exact D2a.out | refine Below.drew ?_ | refine Below.alloc ?_ (by first | exact D4a.out.size | exact D3a.out.size | exact D2a.out.size | exact Nat.le_refl _ | omega | (simp; done) | (simp; omega)) _ | refine Below.setCell ?_ (by first | exact D4a.out.size | exact D3a.out.size | exact D2a.out.size | exact Nat.le_refl _ | omega | (simp; done) | (simp; omega)) _)); done))
      (first | (go_at_call_of 26 a0; refine (toZoned_any _ _ t0 _ _ _ _ _ hn0 (HAV.out _ (by (repeat (first | exact Below.refl _ _ | exact D4a.out | exact D3a.out | exact D2a.out | refine Below.drew ?_ | refine Below.alloc ?_ (by first | exact D4a.out.size | exact D3a.out.size | exact D2a.out.size | exact Nat.le_refl _ | omega | (simp; done) | (simp; omega)) _ | refine Below.setCell ?_ (by first | exact D4a.out.size | exact D3a.out.size | exact D2a.out.size | exact Nat.le_refl _ | omega | (simp; done) | (simp; omega)) _)); done)) hs0 hy0 (HCV.out _ (by (repeat (first | exact Below.refl _ _ | exact D4a.out | exact D3a.out | exact D2a.out | refine Below.drew ?_ | refine Below.alloc ?_ (by first | exact D4a.out.size | exact D3a.out.size | exact D2a.out.size | exact Nat.le_refl _ | omega | (simp; done) | (simp; omega)) _ | refine Below.setCell ?_ (by first | exact D4a.out.size | exact D3a.out.size | exact D2a.out.size | exact Nat.le_refl _ | omega | (simp; done) | (simp; omega)) _)); done)) ht0).mono ?_; rintro e x2 ⟨g2, q2, rfl, hx2, ho2⟩; have D2a : Hid (Below w3.heap.size w3 x2) := two_worlds (by (repeat (first | exact Below.refl _ _ | exact D4a.out | exact D3a.out | exact D2a.out | refine Below.drew ?_ | refine Below.alloc ?_ (by first | exact D4a.out.size | exact D3a.out.size | exact D2a.out.size | exact Nat.le_refl _ | omega | (simp; done) | (simp; omega)) _ | refine Below.setCell ?_ (by first | exact D4a.out.size | exact D3a.out.size | exact D2a.out.size | exact Nat.le_refl _ | omega | (simp; done) | (simp; omega)) _)); done) hx2; have s2 := D2a.out.size; (try have QB : Bk x2 w3.heap.size (.int .i64 0) (.slice none 0 0) (.slice none 0 0) 27 := bk_new (V := w3.drew) hx2)) | (go_at_call 27; refine (toChange_any t1 _).mono ?_; rintro e x3 ⟨rfl, hx3⟩; have D3a : Hid (Below w3.heap.size w3 x3) := two_worlds (by (repeat (first | exact Below.refl _ _ | exact D4a.out | exact D3a.out | exact D2a.out | refine Below.drew ?_ | refine Below.alloc ?_ (by first | exact D4a.out.size | exact D3a.out.size | exact D2a.out.size | exact Nat.le_refl _ | omega | (simp; done) | (simp; omega)) _ | refine Below.setCell ?_ (by first | exact D4a.out.size | exact D3a.out.size | exact D2a.out.size | exact Nat.le_refl _ | omega | (simp; done) | (simp; omega)) _)); done) hx3; have s3 := D3a.out.size; have OX : Hid (OwZ _ _ (.slice (some ⟨g2, 0, none⟩) n0 n0) (.slice (some ⟨q2, 0, none⟩) m0 m0) t0 x3) := (by first | exact ho2.below hx3 | exact ho2.below (two_worlds ((Below.refl _ _).alloc (Nat.le_refl _) _) hx3)); (first | (have QB := QB.below hx3) | (have QB := bk_new hx3) | skip)) | (go_at_call 25; refine (specAddChange_any _ t0 hn0 (by first | exact OX.out.rdI hn0 | exact (OX.out.below ((Below.refl _ _).alloc (Nat.le_refl _) _)).rdI hn0) hs0 hy0 (by first | exact OX.out.rdC hy0 | exact (OX.out.below ((Below.refl _ _).alloc (Nat.le_refl _) _)).rdC hy0) ht0 (Nat.le_refl _) WF0 t1).mono ?_; intro e x4 hgv; rw [RES.out] at hgv; obtain ⟨aw, nw, cw, ew, mw, dw, rfl, hx4, HN, HM, ho4⟩ := hgv; dsimp only at HN HM ho4 ⊢; obtain rfl : nr = nw := HNR.out.symm.trans HN.out; obtain rfl : mr = mw := HMR.out.symm.trans HM.out; have D4a : Hid (Below w3.heap.size w3 x4) := two_worlds (by (repeat (first | exact Below.refl _ _ | exact D4a.out | exact D3a.out | exact D2a.out | refine Below.drew ?_ | refine Below.alloc ?_ (by first | exact D4a.out.size | exact D3a.out.size | exact D2a.out.size | exact Nat.le_refl _ | omega | (simp; done) | (simp; omega)) _ | refine Below.setCell ?_ (by first | exact D4a.out.size | exact D3a.out.size | exact D2a.out.size | exact Nat.le_refl _ | omega | (simp; done) | (simp; omega)) _)); done) hx4; have s4 := D4a.out.size; (first | (have QB := QB.below hx4; obtain ⟨⟨u0, u1, u2⟩, u3, u4, u5⟩ := QB.cells) | (have QB := bk_new hx4; obtain ⟨⟨u0, u1, u2⟩, u3, u4, u5⟩ := QB.cells) | skip)))
    all_goals
      go_wp2_with fail
      go_meet
      have l4 := hx4.size
      have l3 := hx3.size
      have l2 := hx2.size
      (try simp at l4)
      (try simp at l3)
      (try simp at l2)
      first
        | exact ⟨_, aw, cw, ew, dw, _, _, rfl, rfl, D4a.out.alloc s4 _, Box.alloc x4 _ _, ho4.below ((Below.refl _ _).alloc (Nat.le_refl _) _), by unfold Hid; simp; omega⟩
        | refine ⟨_, aw, cw, ew, dw, _, _, rfl, rfl, below_store D4a.out (by first | omega | (simp; done) | (simp; omega)) _ _ _, (bk_store QB _ _ _).box, owz_store ho4 (by first | omega | (simp; done) | (simp; omega)) _ _ _, by unfold Hid; simp; omega⟩
  case rest => as_aux_lemma =>
    obtain ⟨bw, aw, cw, ew, dw, lw, hw, rfl, rfl, B5, W5, OW5, N5⟩ := hcut
    obtain ⟨w5, hw5⟩ : ∃ w5, w5 = wc := ⟨_, rfl⟩
    subst hw5
    have n5 := W5.out.1
    obtain ⟨⟨p0, p1, p2⟩, p3, p4, p5⟩ := HP.out _ B5.out
    go_wp2_with fail
    refine (toZoned_any _ _ t0 _ _ _ _ _ hn0 (HAX.out _ B5.out) hs0 hy0 (HCX.out _ B5.out) ht0).mono ?_
    rintro e w6 ⟨g6, q6, rfl, hb6, ho6⟩
    clear p0 p1 p2 p3 p4 p5
    go_upto_region 7 with fail
    have E6 : Below w5.heap.size w5 (w6.alloc (.cells #[.int .i64 t0.1, .slice (some ⟨g6, 0, none⟩) n0 n0, .slice (some ⟨q6, 0, none⟩) m0 m0] 27)) := hb6.alloc hb6.size _
    have B6 := Lib.hid (two_worlds B5.out E6)
    have W6 := Lib.hid (W5.out.below E6)
    have OW6 := Lib.hid (OW5.out.below E6)
    have XO6 := Lib.hid (ho6.below ((Below.refl _ _).alloc (Nat.le_refl _) (.cells #[.int .i64 t0.1, .slice (some ⟨g6, 0, none⟩) n0 n0, .slice (some ⟨q6, 0, none⟩) m0 m0] 27)))
    have XB6 := Lib.hid (Box.alloc w6 [.int .i64 t0.1, .slice (some ⟨g6, 0, none⟩) n0 n0, .slice (some ⟨q6, 0, none⟩) m0 m0] 27)
    have s6 : w6.heap.size < (w6.alloc (.cells #[.int .i64 t0.1, .slice (some ⟨g6, 0, none⟩) n0 n0, .slice (some ⟨q6, 0, none⟩) m0 m0] 27)).heap.size := by simp
    have s56 := hb6.size
    clear E6 hb6 ho6
    generalize hV6 : (w6.alloc (.cells #[.int .i64 t0.1, .slice (some ⟨g6, 0, none⟩) n0 n0, .slice (some ⟨q6, 0, none⟩) m0 m0] 27)) = v6 at *
    clear hV6
    generalize w6.heap.size = bx at *
    have N6 : Hid (w3.heap.size ≤ bw ∧ (bw < lw ∨ hw ≤ bw) ∧ w3.heap.size ≤ lw ∧ hw ≤ w5.heap.size ∧ bw < w5.heap.size ∧ w5.heap.size ≤ bx ∧ bx < v6.heap.size ∧ w.heap.size + 1 < w3.heap.size ∧ w3.heap.size ≤ w5.heap.size) := ⟨N5.out.1, N5.out.2.1, N5.out.2.2.1, N5.out.2.2.2, n5, s56, s6, hA3, B5.out.size⟩
    clear s56 s6 n5 N5 hA3 HAV HCV HS
    have HX6 : Hid (∀ w', Below v6.heap.size v6 w' → w'.cell? ⟨bx, 0, none⟩ = some (.int .i64 t0.1) ∧ w'.cell? ⟨bx, 1, none⟩ = some (.slice (some ⟨g6, 0, none⟩) n0 n0) ∧ w'.cell? ⟨bx, 2, none⟩ = some (.slice (some ⟨q6, 0, none⟩) m0 m0)) := fun w' h => (XB6.out.below h).three
    have HS : Hid (∀ w', Below v6.heap.size v6 w' → w'.cell? ⟨bx, 0, none⟩ = some (.int .i64 t0.1) ∧ w'.cell? ⟨bx, 1, none⟩ = some (.slice (some ⟨g6, 0, none⟩) n0 n0) ∧ w'.cell? ⟨bx, 2, none⟩ = some (.slice (some ⟨q6, 0, none⟩) m0 m0) ∧ w'.cell? ⟨w.heap.size + 1, 0, none⟩ = some (.int .i64 t1.1) ∧ w'.cell? ⟨w.heap.size + 1, 1, none⟩ = some (.int .i64 t1.2.1) ∧ w'.cell? ⟨w.heap.size + 1, 2, none⟩ = some (.int .i64 t1.2.2)) := fun w' h => have q := HX6.out _ h; ⟨q.1, q.2.1, q.2.2, (HP.out _ (two_worlds B6.out h)).2⟩
    have OXV : Hid (∀ W, Below v6.heap.size v6 W → OwZ w5.heap.size bx (.slice (some ⟨g6, 0, none⟩) n0 n0) (.slice (some ⟨q6, 0, none⟩) m0 m0) t0 W) := fun W h => XO6.out.below h
    go_upto_region 7 with fail
    go_cut [9, 10] (fun s6 s7 wx => ∃ (bw : Nat) (aw : Option Addr) (cw : Nat) (ew : Option Addr) (dw lw hw : Nat), s6 = .pointer (some ⟨bw, 0, none⟩) ∧ s7 = .int .i64 rc ∧ Hid (Below v6.heap.size v6 wx) ∧ Hid (Box wx bw [.int .i64 r.1, .slice aw nr cw, .slice ew mr dw]) ∧ Hid (OwZ lw hw (.slice aw nr cw) (.slice ew mr dw) r wx) ∧ Hid (v6.heap.size ≤ bw ∧ (bw < lw ∨ hw ≤ bw) ∧ v6.heap.size ≤ lw ∧ hw ≤ wx.heap.size))
    case first => as_aux_lemma =>
      go_region_held3 (fun w' => w'.cell? ⟨bx, 0, none⟩ = some (.int .i64 t0.1) ∧ w'.cell? ⟨bx, 1, none⟩ = some (.slice (some ⟨g6, 0, none⟩) n0 n0) ∧ w'.cell? ⟨bx, 2, none⟩ = some (.slice (some ⟨q6, 0, none⟩) m0 m0) ∧ w'.cell? ⟨w.heap.size + 1, 0, none⟩ = some (.int .i64 t1.1) ∧ w'.cell? ⟨w.heap.size + 1, 1, none⟩ = some (.int .i64 t1.2.1) ∧ w'.cell? ⟨w.heap.size + 1, 2, none⟩ = some (.int .i64 t1.2.2))
        (exact HS.out _ (by (repeat (first | exact Below.refl _ _ | exact D4b.out | exact D3b.out | exact D2b.out | refine Below.drew ?_ | refine Below.alloc ?_ (by first | exact D4b.out.size | exact D3b.out.size | exact D2b.out.size | exact Nat.le_refl _ | omega | (simp; done) | (simp; omega)) _ | refine Below.setCell ?_ (by first | exact D4b.out.size | exact D3b.out.size | exact D2b.out.size | exact Nat.le_refl _ | omega | (simp; done) | (simp; omega)) _)); done))
        (first | (go_at_call 27; refine (toChange_any t1 _).mono ?_; rintro e x2 ⟨rfl, hx2⟩; have D2b : Hid (Below v6.heap.size v6 x2) := two_worlds (by (repeat (first | exact Below.refl _ _ | exact D4b.out | exact D3b.out | exact D2b.out | refine Below.drew ?_ | refine Below.alloc ?_ (by first | exact D4b.out.size | exact D3b.out.size | exact D2b.out.size | exact Nat.le_refl _ | omega | (simp; done) | (simp; omega)) _ | refine Below.setCell ?_ (by first | exact D4b.out.size | exact D3b.out.size | exact D2b.out.size | exact Nat.le_refl _ | omega | (simp; done) | (simp; omega)) _)); done) hx2; have s2 := D2b.out.size; (try have QB : Bk x2 v6.heap.size (.int .i64 0) (.slice none 0 0) (.slice none 0 0) 27 := bk_new (V := v6.drew) hx2)) | (go_at_call 28; refine (implAddChange_any _ t0 hn0 (by first | exact (OXV.out _ (by (repeat (first | exact Below.refl _ _ | exact D4b.out | exact D3b.out | exact D2b.out | refine Below.drew ?_ | refine Below.alloc ?_ (by first | exact D4b.out.size | exact D3b.out.size | exact D2b.out.size | exact Nat.le_refl _ | omega | (simp; done) | (simp; omega)) _ | refine Below.setCell ?_ (by first | exact D4b.out.size | exact D3b.out.size | exact D2b.out.size | exact Nat.le_refl _ | omega | (simp; done) | (simp; omega)) _)); done)).rdI hn0) hs0 hy0 (by first | exact (OXV.out _ (by (repeat (first | exact Below.refl _ _ | exact D4b.out | exact D3b.out | exact D2b.out | refine Below.drew ?_ | refine Below.alloc ?_ (by first | exact D4b.out.size | exact D3b.out.size | exact D2b.out.size | exact Nat.le_refl _ | omega | (simp; done) | (simp; omega)) _ | refine Below.setCell ?_ (by first | exact D4b.out.size | exact D3b.out.size | exact D2b.out.size | exact Nat.le_refl _ | omega | (simp; done) | (simp; omega)) _)); done)).rdC hy0) ht0 (Nat.le_refl _) WF0 t1).mono ?_; intro e x4 hgv; rw [RES.out] at hgv; obtain ⟨aw, nw, cw, ew, mw, dw, rfl, hx4, HN, HM, ho4⟩ := hgv; dsimp only at HN HM ho4 ⊢; obtain rfl : nr = nw := HNR.out.symm.trans HN.out; obtain rfl : mr = mw := HMR.out.symm.trans HM.out; have D4b : Hid (Below v6.heap.size v6 x4) := two_worlds (by (repeat (first | exact Below.refl _ _ | exact D4b.out | exact D3b.out | exact D2b.out | refine Below.drew ?_ | refine Below.alloc ?_ (by first | exact D4b.out.size | exact D3b.out.size | exact D2b.out.size | exact Nat.le_refl _ | omega | (simp; done) | (simp; omega)) _ | refine Below.setCell ?_ (by first | exact D4b.out.size | exact D3b.out.size | exact D2b.out.size | exact Nat.le_refl _ | omega | (simp; done) | (simp; omega)) _)); done) hx4; have s4 := D4b.out.size; (first | (have QB := QB.below hx4; obtain ⟨⟨u0, u1, u2⟩, u3, u4, u5⟩ := QB.cells) | (have QB := bk_new hx4; obtain ⟨⟨u0, u1, u2⟩, u3, u4, u5⟩ := QB.cells) | skip)))
      all_goals
        go_wp2_with fail
        go_meet
        have l4 := hx4.size
        have l2 := hx2.size
        (try simp at l4)
        (try simp at l2)
        first
          | exact ⟨_, aw, cw, ew, dw, _, _, rfl, rfl, D4b.out.alloc s4 _, Box.alloc x4 _ _, ho4.below ((Below.refl _ _).alloc (Nat.le_refl _) _), by unfold Hid; simp; omega⟩
          | refine ⟨_, aw, cw, ew, dw, _, _, rfl, rfl, below_store D4b.out (by first | omega | (simp; done) | (simp; omega)) _ _ _, (bk_store QB _ _ _).box, owz_store ho4 (by first | omega | (simp; done) | (simp; omega)) _ _ _, by unfold Hid; simp; omega⟩
    case rest => as_aux_lemma =>
      obtain ⟨bg, ag, cg, eg, dg, lg, hg, rfl, rfl, V9, G9, OG9, N9⟩ := hcut
      obtain ⟨w9, hw9⟩ : ∃ w9, w9 = wc := ⟨_, rfl⟩
      subst hw9
      have B9 := Lib.hid (two_worlds B6.out V9.out)
      have W9 := Lib.hid (W6.out.below V9.out)
      have OW9 := Lib.hid (OW6.out.below V9.out)
      have XB9 := Lib.hid (XB6.out.below V9.out)
      have XO9 := Lib.hid (XO6.out.below V9.out)
      have M9 : Hid ((bg < lg ∨ hg ≤ bg) ∧ v6.heap.size ≤ lg ∧ v6.heap.size ≤ bg) := ⟨N9.out.2.1, N9.out.2.2.1, N9.out.1⟩
      have H9 : Hid (hg ≤ w9.heap.size) := N9.out.2.2.2
      clear N9 B6 W6 OW6 XB6 XO6 HS OXV HX6 V9
      obtain ⟨g0, g1, g2⟩ := G9.out.three
      obtain ⟨h0, h1, h2⟩ := W9.out.three
      go_wp2_with fail
      refine (eqZoned_any _ _ _ _ r r _ _ _ _ _ _ _ _ _ HNR HNR HMR HMR (OG9.out.rdI HNR) (OW9.out.rdI HNR) (OG9.out.rdC HMR) (OW9.out.rdC HMR) HNM.out HMM.out).mono ?_
      rintro e w10 ⟨rfl, hbx⟩
      rw [beqT r]
      clear g0 g1 g2 h0 h1 h2
      have B10 := Lib.hid (two_worlds B9.out hbx)
      have W10 := Lib.hid (W9.out.below hbx)
      have OW10 := Lib.hid (OW9.out.below hbx)
      have XB10 := Lib.hid (XB9.out.below hbx)
      have XO10 := Lib.hid (XO9.out.below hbx)
      have G10 := Lib.hid (G9.out.below hbx)
      have OG10 := Lib.hid (OG9.out.below hbx)
      clear B9 W9 OW9 XB9 XO9 G9 OG9
      clear hbx
      have HS : Hid (∀ w', Below w10.heap.size w10 w' → w'.cell? ⟨bx, 0, none⟩ = some (.int .i64 t0.1) ∧ w'.cell? ⟨bx, 1, none⟩ = some (.slice (some ⟨g6, 0, none⟩) n0 n0) ∧ w'.cell? ⟨bx, 2, none⟩ = some (.slice (some ⟨q6, 0, none⟩) m0 m0) ∧ w'.cell? ⟨w.heap.size, 0, none⟩ = some (.int .i64 t0.1) ∧ w'.cell? ⟨w.heap.size, 1, none⟩ = some (.slice a0 n0 c0) ∧ w'.cell? ⟨w.heap.size, 2, none⟩ = some (.slice b0 m0 d0)) := fun w' h => have q := (XB10.out.below h).three; ⟨q.1, q.2.1, q.2.2, (HP.out _ (two_worlds B10.out h)).1⟩
      go_wp2_with fail
      go_region_held3 (fun w' => w'.cell? ⟨bx, 0, none⟩ = some (.int .i64 t0.1) ∧ w'.cell? ⟨bx, 1, none⟩ = some (.slice (some ⟨g6, 0, none⟩) n0 n0) ∧ w'.cell? ⟨bx, 2, none⟩ = some (.slice (some ⟨q6, 0, none⟩) m0 m0) ∧ w'.cell? ⟨w.heap.size, 0, none⟩ = some (.int .i64 t0.1) ∧ w'.cell? ⟨w.heap.size, 1, none⟩ = some (.slice a0 n0 c0) ∧ w'.cell? ⟨w.heap.size, 2, none⟩ = some (.slice b0 m0 d0))
        (first | exact HS.out _ (Below.refl _ _).drew | exact HS.out _ D2c.out | exact HS.out _ D3c.out)
        (first | (go_at_call_of 26 a0; refine (toZoned_any _ _ t0 _ _ _ _ _ hn0 (HAX.out _ (two_worlds B10.out (Below.refl _ _).drew)) hs0 hy0 (HCX.out _ (two_worlds B10.out (Below.refl _ _).drew)) ht0).mono ?_; rintro e x2 ⟨g2, q2, rfl, hx2, ho2⟩; have D2c : Hid (Below w10.heap.size w10 x2) := two_worlds (Below.refl _ _).drew hx2) | (go_at_call 29; refine (eqZoned_any _ _ _ _ t0 t0 _ _ _ _ _ _ _ _ _ hn0 hn0 hy0 hy0 ((XO10.out.below D2c.out).rdI hn0) (ho2.rdI hn0) ((XO10.out.below D2c.out).rdC hy0) (ho2.rdC hy0) HM0.out HN0.out).mono ?_; rintro e w12 ⟨rfl, hx3⟩; rw [beqT t0]; have D3c : Hid (Below w10.heap.size w10 w12) := two_worlds D2c.out hx3))
      have B12 := Lib.hid (two_worlds B10.out D3c.out)
      have W12 := Lib.hid (W10.out.below D3c.out)
      have OW12 := Lib.hid (OW10.out.below D3c.out)
      have XB12 := Lib.hid (XB10.out.below D3c.out)
      have XO12 := Lib.hid (XO10.out.below D3c.out)
      have G12 := Lib.hid (G10.out.below D3c.out)
      have OG12 := Lib.hid (OG10.out.below D3c.out)
      clear B10 W10 OW10 XB10 XO10 G10 OG10
      clear hx2 hx3 ho2 D2c D3c HS
      obtain ⟨g0, g1, g2⟩ := XB12.out.three
      go_wp2_with fail
      refine (markZoned_any _ _ t0 n0 n0 m0 m0 1 w5.heap.size bx _ hn0 hy0 XO12.out (by omega) (by omega) (by omega) (by omega)).mono ?_
      rintro e w13 ⟨rfl, ht, _⟩
      have hn6 := N6.out
      have hn9 := M9.out
      have B13 : Hid (Below w3.heap.size w3 w13) := B12.out.trans (ht.below (by omega) B12.out.size)
      have W13 := Lib.hid (W12.out.turned ht (.inl (by omega)))
      have OW13 := Lib.hid (OW12.out.turned ht (.inl (by omega)))
      have G13 := Lib.hid (G12.out.turned ht (.inr (by omega)))
      have OG13 := Lib.hid (OG12.out.turned ht (.inr (by omega)))
      clear ht hn6 hn9 g0 g1 g2 B12 W12 OW12 XB12 XO12 G12 OG12
      obtain ⟨g0, g1, g2⟩ := G13.out.three
      obtain ⟨h0, h1, h2⟩ := W13.out.three
      go_wp2_with fail
      refine (eqZoned_any _ _ _ _ r r _ _ _ _ _ _ _ _ _ HNR HNR HMR HMR (OG13.out.rdI HNR) (OW13.out.rdI HNR) (OG13.out.rdC HMR) (OW13.out.rdC HMR) HNM.out HMM.out).mono ?_
      rintro e w14 ⟨rfl, hbx⟩
      rw [beqT r]
      clear g0 g1 g2 h0 h1 h2
      have B14 := Lib.hid (two_worlds B13.out hbx)
      have W14 := Lib.hid (W13.out.below hbx)
      have OW14 := Lib.hid (OW13.out.below hbx)
      have G14 := Lib.hid (G13.out.below hbx)
      have OG14 := Lib.hid (OG13.out.below hbx)
      clear B13 W13 OW13 G13 OG13
      clear hbx
      obtain ⟨g0, g1, g2⟩ := G14.out.three
      go_wp2_with fail
      refine (markZoned_any _ _ r nr cg mr dg 1 lg hg _ HNR HMR OG14.out hnr hmr (by omega) (by omega)).mono ?_
      rintro e w15 ⟨rfl, ht, OM⟩
      have hn6 := N6.out
      have hn9 := M9.out
      have B15 : Hid (Below w3.heap.size w3 w15) := B14.out.trans (ht.below (by omega) B14.out.size)
      have W15 := Lib.hid (W14.out.turned ht (.inl (by omega)))
      have OW15 := Lib.hid (OW14.out.turned ht (.inl (by omega)))
      have G15 := Lib.hid (G14.out.turned ht hn9.1)
      have OM15 := Lib.hid OM
      clear OM ht hn6 hn9 g0 g1 g2 B14 W14 OW14 G14 OG14
      have HL1 : Hid ((marksI 1 nr).length = nr) := marksI_length _ _
      have HL2 : Hid ((marksChange (1 + (nr : Int)) mr).length = mr) := marksChange_length _ _
      obtain ⟨g0, g1, g2⟩ := G15.out.three
      go_wp2_with fail
      refine (heldZoned_any _ _ r.1 nr cg mr dg 1 _ (OM15.out.rdI HL1) (OM15.out.rdC HL2) hnr hmr (by omega) (by omega)).mono ?_
      rintro e w16 ⟨rfl, hbx⟩
      clear g0 g1 g2
      have B16 := Lib.hid (two_worlds B15.out hbx)
      have W16 := Lib.hid (W15.out.below hbx)
      have OW16 := Lib.hid (OW15.out.below hbx)
      have G16 := Lib.hid (G15.out.below hbx)
      have OM16 := Lib.hid (OM15.out.below hbx)
      clear B15 W15 OW15 G15 OM15
      clear hbx
      have HS : Hid (∀ w', Below w16.heap.size w16 w' → w'.cell? ⟨w.heap.size, 0, none⟩ = some (.int .i64 t0.1) ∧ w'.cell? ⟨w.heap.size, 1, none⟩ = some (.slice a0 n0 c0) ∧ w'.cell? ⟨w.heap.size, 2, none⟩ = some (.slice b0 m0 d0) ∧ w'.cell? ⟨w.heap.size + 1, 0, none⟩ = some (.int .i64 t1.1) ∧ w'.cell? ⟨w.heap.size + 1, 1, none⟩ = some (.int .i64 t1.2.1) ∧ w'.cell? ⟨w.heap.size + 1, 2, none⟩ = some (.int .i64 t1.2.2)) := fun w' h => have q := HP.out _ (two_worlds B16.out h); ⟨q.1.1, q.1.2.1, q.1.2.2, q.2⟩
      have HAV : Hid (∀ W, Below w16.heap.size w16 W → RI W a0 t0.2.1) := fun W h => HAX.out _ (two_worlds B16.out h)
      have HCV : Hid (∀ W, Below w16.heap.size w16 W → RR 3 cChange W b0 t0.2.2) := fun W h => HCX.out _ (two_worlds B16.out h)
      obtain ⟨⟨p0, p1, p2⟩, p3, p4, p5⟩ := HP.out _ B16.out
      have hg1 : ¬ (1 + (nr : Int) + 3 * (mr : Int)) < 0 := by omega
      go_upto_region 24 with fail
      go_cut [14, 15] (fun s6 s7 wx => ∃ (bw : Nat) (aw : Option Addr) (cw : Nat) (ew : Option Addr) (dw lw hw : Nat), s6 = .pointer (some ⟨bw, 0, none⟩) ∧ s7 = .int .i64 rc ∧ Hid (Below w16.heap.size w16 wx) ∧ Hid (Box wx bw [.int .i64 r.1, .slice aw nr cw, .slice ew mr dw]) ∧ Hid (OwZ lw hw (.slice aw nr cw) (.slice ew mr dw) r wx) ∧ Hid (w16.heap.size ≤ bw ∧ (bw < lw ∨ hw ≤ bw) ∧ w16.heap.size ≤ lw ∧ hw ≤ wx.heap.size))
      case first => as_aux_lemma =>
        go_region_held3 (fun w' => w'.cell? ⟨w.heap.size, 0, none⟩ = some (.int .i64 t0.1) ∧ w'.cell? ⟨w.heap.size, 1, none⟩ = some (.slice a0 n0 c0) ∧ w'.cell? ⟨w.heap.size, 2, none⟩ = some (.slice b0 m0 d0) ∧ w'.cell? ⟨w.heap.size + 1, 0, none⟩ = some (.int .i64 t1.1) ∧ w'.cell? ⟨w.heap.size + 1, 1, none⟩ = some (.int .i64 t1.2.1) ∧ w'.cell? ⟨w.heap.size + 1, 2, none⟩ = some (.int .i64 t1.2.2))
          (exact HS.out _ (by (repeat (first | exact Below.refl _ _ | exact D4d.out | exact D3d.out | exact D2d.out | refine Below.drew ?_ | refine Below.alloc ?_ (by first | exact D4d.out.size | exact D3d.out.size | exact D2d.out.size | exact Nat.le_refl _ | omega | (simp; done) | (simp; omega)) _ | refine Below.setCell ?_ (by first | exact D4d.out.size | exact D3d.out.size | exact D2d.out.size | exact Nat.le_refl _ | omega | (simp; done) | (simp; omega)) _)); done))
          (first | (go_at_call_of 26 a0; refine (toZoned_any _ _ t0 _ _ _ _ _ hn0 (HAV.out _ (by (repeat (first | exact Below.refl _ _ | exact D4d.out | exact D3d.out | exact D2d.out | refine Below.drew ?_ | refine Below.alloc ?_ (by first | exact D4d.out.size | exact D3d.out.size | exact D2d.out.size | exact Nat.le_refl _ | omega | (simp; done) | (simp; omega)) _ | refine Below.setCell ?_ (by first | exact D4d.out.size | exact D3d.out.size | exact D2d.out.size | exact Nat.le_refl _ | omega | (simp; done) | (simp; omega)) _)); done)) hs0 hy0 (HCV.out _ (by (repeat (first | exact Below.refl _ _ | exact D4d.out | exact D3d.out | exact D2d.out | refine Below.drew ?_ | refine Below.alloc ?_ (by first | exact D4d.out.size | exact D3d.out.size | exact D2d.out.size | exact Nat.le_refl _ | omega | (simp; done) | (simp; omega)) _ | refine Below.setCell ?_ (by first | exact D4d.out.size | exact D3d.out.size | exact D2d.out.size | exact Nat.le_refl _ | omega | (simp; done) | (simp; omega)) _)); done)) ht0).mono ?_; rintro e x2 ⟨g2, q2, rfl, hx2, ho2⟩; have D2d : Hid (Below w16.heap.size w16 x2) := two_worlds (by (repeat (first | exact Below.refl _ _ | exact D4d.out | exact D3d.out | exact D2d.out | refine Below.drew ?_ | refine Below.alloc ?_ (by first | exact D4d.out.size | exact D3d.out.size | exact D2d.out.size | exact Nat.le_refl _ | omega | (simp; done) | (simp; omega)) _ | refine Below.setCell ?_ (by first | exact D4d.out.size | exact D3d.out.size | exact D2d.out.size | exact Nat.le_refl _ | omega | (simp; done) | (simp; omega)) _)); done) hx2; have s2 := D2d.out.size; (try have QB : Bk x2 w16.heap.size (.int .i64 0) (.slice none 0 0) (.slice none 0 0) 27 := bk_new (V := w16.drew) hx2)) | (go_at_call 27; refine (toChange_any t1 _).mono ?_; rintro e x3 ⟨rfl, hx3⟩; have D3d : Hid (Below w16.heap.size w16 x3) := two_worlds (by (repeat (first | exact Below.refl _ _ | exact D4d.out | exact D3d.out | exact D2d.out | refine Below.drew ?_ | refine Below.alloc ?_ (by first | exact D4d.out.size | exact D3d.out.size | exact D2d.out.size | exact Nat.le_refl _ | omega | (simp; done) | (simp; omega)) _ | refine Below.setCell ?_ (by first | exact D4d.out.size | exact D3d.out.size | exact D2d.out.size | exact Nat.le_refl _ | omega | (simp; done) | (simp; omega)) _)); done) hx3; have s3 := D3d.out.size; have OX : Hid (OwZ _ _ (.slice (some ⟨g2, 0, none⟩) n0 n0) (.slice (some ⟨q2, 0, none⟩) m0 m0) t0 x3) := (by first | exact ho2.below hx3 | exact ho2.below (two_worlds ((Below.refl _ _).alloc (Nat.le_refl _) _) hx3)); (first | (have QB := QB.below hx3) | (have QB := bk_new hx3) | skip)) | (go_at_call 28; refine (implAddChange_any _ t0 hn0 (by first | exact OX.out.rdI hn0 | exact (OX.out.below ((Below.refl _ _).alloc (Nat.le_refl _) _)).rdI hn0) hs0 hy0 (by first | exact OX.out.rdC hy0 | exact (OX.out.below ((Below.refl _ _).alloc (Nat.le_refl _) _)).rdC hy0) ht0 (Nat.le_refl _) WF0 t1).mono ?_; intro e x4 hgv; rw [RES.out] at hgv; obtain ⟨aw, nw, cw, ew, mw, dw, rfl, hx4, HN, HM, ho4⟩ := hgv; dsimp only at HN HM ho4 ⊢; obtain rfl : nr = nw := HNR.out.symm.trans HN.out; obtain rfl : mr = mw := HMR.out.symm.trans HM.out; have D4d : Hid (Below w16.heap.size w16 x4) := two_worlds (by (repeat (first | exact Below.refl _ _ | exact D4d.out | exact D3d.out | exact D2d.out | refine Below.drew ?_ | refine Below.alloc ?_ (by first | exact D4d.out.size | exact D3d.out.size | exact D2d.out.size | exact Nat.le_refl _ | omega | (simp; done) | (simp; omega)) _ | refine Below.setCell ?_ (by first | exact D4d.out.size | exact D3d.out.size | exact D2d.out.size | exact Nat.le_refl _ | omega | (simp; done) | (simp; omega)) _)); done) hx4; have s4 := D4d.out.size; (first | (have QB := QB.below hx4; obtain ⟨⟨u0, u1, u2⟩, u3, u4, u5⟩ := QB.cells) | (have QB := bk_new hx4; obtain ⟨⟨u0, u1, u2⟩, u3, u4, u5⟩ := QB.cells) | skip)))
        all_goals
          go_wp2_with fail
          go_meet
          have l4 := hx4.size
          have l3 := hx3.size
          have l2 := hx2.size
          (try simp at l4)
          (try simp at l3)
          (try simp at l2)
          first
            | exact ⟨_, aw, cw, ew, dw, _, _, rfl, rfl, D4d.out.alloc s4 _, Box.alloc x4 _ _, ho4.below ((Below.refl _ _).alloc (Nat.le_refl _) _), by unfold Hid; simp; omega⟩
            | refine ⟨_, aw, cw, ew, dw, _, _, rfl, rfl, below_store D4d.out (by first | omega | (simp; done) | (simp; omega)) _ _ _, (bk_store QB _ _ _).box, owz_store ho4 (by first | omega | (simp; done) | (simp; omega)) _ _ _, by unfold Hid; simp; omega⟩
      case rest => as_aux_lemma =>
        obtain ⟨bh, ah, ch, eh, dh, lh, hh, rfl, rfl, V17, H17, OH17, _⟩ := hcut
        obtain ⟨w17, hw17⟩ : ∃ w17, w17 = wc := ⟨_, rfl⟩
        subst hw17
        have B17 := Lib.hid (two_worlds B16.out V17.out)
        have W17 := Lib.hid (W16.out.below V17.out)
        have OW17 := Lib.hid (OW16.out.below V17.out)
        have G17 := Lib.hid (G16.out.below V17.out)
        have OM17 := Lib.hid (OM16.out.below V17.out)
        clear B16 W16 OW16 G16 OM16 HS HAV HCV V17 p0 p1 p2 p3 p4 p5
        obtain ⟨g0, g1, g2⟩ := H17.out.three
        obtain ⟨h0, h1, h2⟩ := W17.out.three
        go_wp2_with fail
        refine (eqZoned_any _ _ _ _ r r _ _ _ _ _ _ _ _ _ HNR HNR HMR HMR (OH17.out.rdI HNR) (OW17.out.rdI HNR) (OH17.out.rdC HMR) (OW17.out.rdC HMR) HNM.out HMM.out).mono ?_
        rintro e w18 ⟨rfl, hbx⟩
        rw [beqT r]
        clear g0 g1 g2 h0 h1 h2
        have B18 := Lib.hid (two_worlds B17.out hbx)
        have W18 := Lib.hid (W17.out.below hbx)
        have OW18 := Lib.hid (OW17.out.below hbx)
        have G18 := Lib.hid (G17.out.below hbx)
        have OM18 := Lib.hid (OM17.out.below hbx)
        clear B17 W17 OW17 G17 OM17
        clear hbx
        clear H17 OH17 W18 OW18
        obtain ⟨g0, g1, g2⟩ := G18.out.three
        go_wp2_with fail
        refine (heldZoned_any _ _ r.1 nr cg mr dg 1 _ (OM18.out.rdI HL1) (OM18.out.rdC HL2) hnr hmr (by omega) (by omega)).mono ?_
        rintro e w19 ⟨rfl, hbx⟩
        clear g0 g1 g2
        have B19 := Lib.hid (two_worlds B18.out hbx)
        have G19 := Lib.hid (G18.out.below hbx)
        have OM19 := Lib.hid (OM18.out.below hbx)
        clear B18 G18 OM18
        clear hbx
        go_wp2
        go_ret
        exact ⟨rfl, two_worlds BB.out B19.out⟩
end Go.Proofs.Ytghpefdleiebmaa.fnExactAddChange
