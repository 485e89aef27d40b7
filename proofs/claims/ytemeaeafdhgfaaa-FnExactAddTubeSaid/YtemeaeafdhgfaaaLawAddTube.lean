/-
  The walk of the law FnExactAddTube: it returns true at every network and tube.
-/
import Derived.Test.YtemeaeafdhgfaaaSpecAdd
import Derived.Test.YtemeaeafdhgfaaaLawSameNet
import Derived.Deep.DeepCutAuto
namespace Go.Proofs.Ytemeaeafdhgfaaa
open Go.RowKit

theorem addOf_len (s : Int) (ts : List T3) (t : T3) : (addOf s ts t).2.1.length ≤ 24 := by
  unfold addOf
  split
  · split
    · split
      · simp; omega
      · simp
    · simp
  · simp
theorem GivesAdd.elim {rs rc : Int} {ru : List T3} {m : Nat} {w w' : World} {e : Ending} (hm : Hid (ru.length = m)) (h : GivesAdd (rs, ru, rc) w e w') :
    ∃ a c, e = .returned (.tuple #[.agg #[.int .i64 rs, .slice a m c], .int .i64 rc]) ∧ Below w.heap.size w w' ∧ w'.ownsRow w.heap.size 43 3 (.slice a m c) m (flat ru) := by
  have := hm.out
  subst this
  exact h
theorem grown_of_below {a w : World} (h : Below a.heap.size a w) (row : Option Nat) : a.grownBy w row := ⟨h.os, h.tape, h.output, h.size, fun i hi _ => h.block i hi⟩
theorem rowO_RT {w : World} {lo m c : Nat} {a : Option Addr} {e : TypeId} {ts : List T3} (hn : Hid (ts.length = m)) (h : w.ownsRow lo e 3 (.slice a m c) m (flat ts)) : RT w a ts := by
  have := hn.out
  subst this
  obtain ⟨a', cap, hv, hr⟩ := own_RT h
  injection hv with h1 h2 h3
  rw [h1]
  exact hr
/-- A block of memory. -/
def Blk (w : World) (k : Nat) (o : Obj) : Prop := w.heap[k]? = some o
theorem Blk.lt {w : World} {k : Nat} {o : Obj} (h : Blk w k o) : k < w.heap.size := (Array.getElem?_eq_some_iff.1 h).1
theorem Blk.kept {w w' : World} {k : Nat} {o : Obj} {row : Option Nat} (h : Blk w k o) (g : w.grownBy w' row) (hne : row ≠ some k) : Blk w' k o := (g.block k h.lt (fun e => hne e.symm)).trans h
theorem Blk.below {w w' : World} {k : Nat} {o : Obj} (h : Blk w k o) (g : Below w.heap.size w w') : Blk w' k o := (g.block k h.lt).trans h
theorem Blk.net {w : World} {k : Nat} {s : Int} {v : Value} {T : TypeId} (h : Blk w k (.cells #[.int .i64 s, v] T (0, 0))) : w.cell? ⟨k, 0, none⟩ = some (.int .i64 s) ∧ w.cell? ⟨k, 1, none⟩ = some v := by
  refine ⟨?_, ?_⟩
  · rw [cell_of_row w k 0 _ T (0, 0) h]; rfl
  · rw [cell_of_row w k 1 _ T (0, 0) h]; rfl
theorem Blk.tube {w : World} {k : Nat} {t : T3} {T : TypeId} (h : Blk w k (.cells #[.int .i64 t.1, .int .i64 t.2.1, .int .i64 t.2.2] T (0, 0))) : w.cell? ⟨k, 0, none⟩ = some (.int .i64 t.1) ∧ w.cell? ⟨k, 1, none⟩ = some (.int .i64 t.2.1) ∧ w.cell? ⟨k, 2, none⟩ = some (.int .i64 t.2.2) := by
  refine ⟨?_, ?_, ?_⟩
  · rw [cell_of_row w k 0 _ T (0, 0) h]; rfl
  · rw [cell_of_row w k 1 _ T (0, 0) h]; rfl
  · rw [cell_of_row w k 2 _ T (0, 0) h]; rfl
theorem Blk.free {w : World} {k : Nat} {c : Array Value} {T : TypeId} (h : Blk w k (.cells c T (0, 0))) (o : Nat) : w.frozen? ⟨k, o, none⟩ = false := frozen_of_row w k o c T h
theorem blk_new {V w' : World} {c : Array Value} {T : TypeId} (hb : Below (V.alloc (.cells c T (0, 0))).heap.size (V.alloc (.cells c T (0, 0))) w') : Blk w' V.heap.size (.cells c T (0, 0)) := (hb.block _ (by simp)).trans (heap_alloc_new V _)
/-- The boxes of a law's network and tube stand in a world. -/
def Args (w : World) (A : Nat) (s : Int) (v : Value) (t : T3) : Prop := Blk w A (.cells #[.int .i64 s, v] 29 (0, 0)) ∧ Blk w (A + 1) (.cells #[.int .i64 t.1, .int .i64 t.2.1, .int .i64 t.2.2] 40 (0, 0))
theorem Args.below {w w' : World} {A : Nat} {s : Int} {v : Value} {t : T3} (h : Args w A s v t) (g : Below w.heap.size w w') : Args w' A s v t := ⟨h.1.below g, h.2.below g⟩
theorem Args.kept {w w' : World} {A : Nat} {s : Int} {v : Value} {t : T3} {row : Option Nat} (h : Args w A s v t) (g : w.grownBy w' row) (hne : ∀ k, row = some k → A + 1 < k) : Args w' A s v t :=
  ⟨h.1.kept g (fun e => by have := hne _ e; omega), h.2.kept g (fun e => by have := hne _ e; omega)⟩
theorem Args.cells {w : World} {A : Nat} {s : Int} {v : Value} {t : T3} (h : Args w A s v t) : w.cell? ⟨A, 0, none⟩ = some (.int .i64 s) ∧ w.cell? ⟨A, 1, none⟩ = some v ∧ w.cell? ⟨A + 1, 0, none⟩ = some (.int .i64 t.1) ∧ w.cell? ⟨A + 1, 1, none⟩ = some (.int .i64 t.2.1) ∧ w.cell? ⟨A + 1, 2, none⟩ = some (.int .i64 t.2.2) :=
  ⟨h.1.net.1, h.1.net.2, h.2.tube.1, h.2.tube.2.1, h.2.tube.2.2⟩
theorem s7_of {W : World} {A k : Nat} {s r : Int} {u v : Value} {t : T3} {T : TypeId} (h : Args W A s v t) (b : Blk W k (.cells #[.int .i64 r, u] T (0, 0))) :
    W.cell? ⟨k, 0, none⟩ = some (.int .i64 r) ∧ W.cell? ⟨k, 1, none⟩ = some u ∧ W.cell? ⟨A + 1, 0, none⟩ = some (.int .i64 t.1) ∧ W.cell? ⟨A + 1, 1, none⟩ = some (.int .i64 t.2.1) ∧ W.cell? ⟨A + 1, 2, none⟩ = some (.int .i64 t.2.2) :=
  ⟨b.net.1, b.net.2, h.2.tube.1, h.2.tube.2.1, h.2.tube.2.2⟩
theorem blk_other {W : World} {j k : Nat} {o : Obj} (h : Blk W j o) (hk : j < k) (x y : Value) : Blk ((W.setCell ⟨k, 0, none⟩ x).setCell ⟨k, 1, none⟩ y) j o :=
  (Below.heap_setCell _ _ _ _ (by simp only; omega)).trans ((Below.heap_setCell _ _ _ _ (by simp only; omega)).trans h)
theorem blk_store {W : World} {k : Nat} {a b : Value} {T : TypeId} (h : Blk W k (.cells #[a, b] T (0, 0))) (x y : Value) : Blk ((W.setCell ⟨k, 0, none⟩ x).setCell ⟨k, 1, none⟩ y) k (.cells #[x, y] T (0, 0)) :=
  heap_setCell_same _ _ _ _ _ _ (heap_setCell_same _ _ _ _ _ _ h)
theorem own_ne {w : World} {lo n k : Nat} {e : TypeId} {size : Nat} {v : Value} {xs : List Value} (h : w.ownsRow lo e size v n xs) (hk : k < lo) : v.ownBlock ≠ some k := fun e => by
  have := (h.lt _ e).1
  omega
theorem own_apart {u v : Value} {p q : Nat} (h : ∀ k, u.ownBlock = some k → k < p) (h' : ∀ k, v.ownBlock = some k → q ≤ k) (hpq : p ≤ q) : u.ownBlock = none ∨ u.ownBlock ≠ v.ownBlock := by
  cases hu : u.ownBlock with
  | none => exact .inl rfl
  | some k => exact .inr (fun e => by have h1 := h k hu; have h2 := h' k e.symm; omega)
theorem own_none (v : Value) : v.ownBlock = none ∨ v.ownBlock ≠ none := by cases v.ownBlock <;> simp
theorem args_store {W : World} {A k : Nat} {s : Int} {v : Value} {t : T3} (h : Args W A s v t) (hk : A + 1 < k) (x y : Value) : Args ((W.setCell ⟨k, 0, none⟩ x).setCell ⟨k, 1, none⟩ y) A s v t := by
  refine ⟨?_, ?_⟩
  · exact (Below.heap_setCell _ _ _ _ (by simp only; omega)).trans ((Below.heap_setCell _ _ _ _ (by simp only; omega)).trans h.1)
  · exact (Below.heap_setCell _ _ _ _ (by simp only; omega)).trans ((Below.heap_setCell _ _ _ _ (by simp only; omega)).trans h.2)
theorem Args.start (w : World) (s : Int) (v : Value) (t : T3) : Args ((w.alloc (.cells #[.int .i64 s, v] 29)).alloc (.cells #[.int .i64 t.1, .int .i64 t.2.1, .int .i64 t.2.2] 40)) w.heap.size s v t := by
  refine ⟨?_, ?_⟩
  · exact (Below.heap_alloc _ _ _ (by simp)).trans (heap_alloc_new w _)
  · have h := heap_alloc_new (w.alloc (.cells #[.int .i64 s, v] 29)) (.cells #[.int .i64 t.1, .int .i64 t.2.1, .int .i64 t.2.2] 40)
    simpa [Blk] using h
end Go.Proofs.Ytemeaeafdhgfaaa
namespace Go.Proofs.Ytemeaeafdhgfaaa.fnExactAddTube
open Go.RowKit
set_option maxRecDepth 100000 in
set_option maxHeartbeats 10000000 in
theorem walk {w : World} (v : Value) (x : Int × List T3) (hx : NetIn w v x) (v' : Value) (t : T3) (ht : TubeIn v' t) :
    Calls Try.prog 7 #[v, v'] w fun e w' => e = .returned (.bool true) ∧ Below w.heap.size w w' := by
  obtain ⟨s, ts⟩ := x
  obtain ⟨a, n, ca, rfl, hn, hmax, ha, _, _⟩ := hx
  obtain ⟨rfl, _⟩ := ht
  simp only at ha hn
  have HM := Lib.hid hmax
  have HA : Hid (∀ w', Below w.heap.size w w' → RT w' a ts) := fun w' h => ha.below h
  clear hmax ha
  by_cases h : 1048576 < n
  · have HL := leftOf_less (left := 1048576) (n := (n : Int)) (by omega)
    go_enter Try.func7, Try.ntmps7
    go_wp2_with (go_at_call 24; refine (szNet_any _ _ _ _ _ _ (by omega) (by omega) HM.out).mono ?_; rintro e w1 ⟨rfl, hb1⟩)
    go_ret
    exact ⟨rfl, Below.trans (by repeat (first | exact Below.refl _ _ | refine Below.alloc ?_ (by simp; try omega) _ | refine Below.setCell ?_ (by simp; try omega) _)) (hb1.mono (by simp; omega))⟩
  · have hn' : n ≤ 1048576 := by omega
    have HL := leftOf_enough (left := 1048576) (n := (n : Int)) (by omega)
    have hlen := addOf_len s ts t
    generalize hres : addOf s ts t = res at hlen
    obtain ⟨rs, ru, rc⟩ := res
    have RES := Lib.hid hres
    clear hres
    generalize hml : ru.length = m at hlen
    have HML := Lib.hid hml
    clear hml
    have hm24 : m ≤ 24 := hlen
    clear hlen
    have HMM : Hid (m ≤ maxLen) := by unfold Hid maxLen; omega
    go_enter Try.func7, Try.ntmps7
    go_wp2_with fail
    refine (szNet_any _ _ _ _ _ _ (by omega) (by omega) HM.out).mono ?_
    rintro e w1 ⟨rfl, hb1⟩
    have X1 := Lib.hid ((Args.start w s (.slice a n ca) t).below hb1)
    have B1 := Lib.hid (Below.trans (show Below w.heap.size w ((w.alloc (.cells #[.int .i64 s, .slice a n ca] 29)).alloc (.cells #[.int .i64 t.1, .int .i64 t.2.1, .int .i64 t.2.2] 40)) from (by repeat (first | exact Below.refl _ _ | refine Below.alloc ?_ (by simp; try omega) _ | refine Below.setCell ?_ (by simp; try omega) _))) (hb1.mono (by simp; omega)))
    have z1 : w.heap.size + 1 < w1.heap.size := X1.out.2.lt
    clear hb1
    obtain ⟨p0, p1, t0, t1, t2⟩ := X1.out.cells
    go_upto_region 5 with fail
    go_cut [6, 7] (fun s6 s7 wx => ∃ (bw : Nat) (aw : Option Addr) (cw : Nat), s6 = .pointer (some ⟨bw, 0, none⟩) ∧ s7 = .int .i64 rc ∧ Hid (Args wx w.heap.size s (.slice a n ca) t) ∧ Hid (Below w.heap.size w wx) ∧ Hid (Blk wx bw (.cells #[.int .i64 rs, .slice aw m cw] 34 (0, 0))) ∧ Hid (wx.ownsRow w1.heap.size 43 3 (.slice aw m cw) m (flat ru)) ∧ Hid (w1.heap.size ≤ wx.heap.size))
    case first =>
      have XD : Hid (Args w1.drew w.heap.size s (.slice a n ca) t) := X1.out
      have BD : Hid (Below w.heap.size w w1.drew) := B1.out.drew
      have SZ : Hid (w.heap.size ≤ w1.drew.heap.size) := B1.out.size
      go_region_held3 (fun w' => w'.cell? ⟨w.heap.size, 0, none⟩ = some (.int .i64 s) ∧ w'.cell? ⟨w.heap.size, 1, none⟩ = some (.slice a n ca) ∧ w'.cell? ⟨w.heap.size + 1, 0, none⟩ = some (.int .i64 t.1) ∧ w'.cell? ⟨w.heap.size + 1, 1, none⟩ = some (.int .i64 t.2.1) ∧ w'.cell? ⟨w.heap.size + 1, 2, none⟩ = some (.int .i64 t.2.2))
        (first | exact XD.out.cells | exact (XD.out.below ((Below.refl _ _).alloc (Nat.le_refl _) _)).cells | exact X2.out.cells | exact (X2.out.below ((Below.refl _ _).alloc (Nat.le_refl _) _)).cells | exact X3.out.cells | exact (X3.out.below ((Below.refl _ _).alloc (Nat.le_refl _) _)).cells | exact X4.out.cells | exact (X4.out.below ((Below.refl _ _).alloc (Nat.le_refl _) _)).cells | exact (args_store X4.out X3.out.2.lt _ _).cells | exact (args_store X4.out X2.out.2.lt _ _).cells | exact (args_store X4.out XD.out.2.lt _ _).cells)
        (first | (go_at_call 26; refine (toNet_any _ _ ts _ _ _ hn (HA.out _ (by first | exact BD.out | exact BD.out.alloc SZ.out _)) hn').mono ?_; rintro e w2 ⟨g2, rfl, hg2, hb2, ho2⟩; have X2 : Hid (Args w2 w.heap.size s (.slice a n ca) t) := (by first | exact XD.out.below hb2 | exact (XD.out.below ((Below.refl _ _).alloc (Nat.le_refl _) _)).below hb2); have B2 : Hid (Below w.heap.size w w2) := (by first | exact two_worldsC BD.out hb2 | exact two_worldsC (BD.out.alloc SZ.out _) hb2); have Z2 : Hid (w1.heap.size ≤ w2.heap.size) := (by have h2 := hb2.size; (try simp at h2); unfold Hid; omega); have R2 := Lib.hid (row_RT hn ho2); (try have QB : Blk w2 w1.heap.size (.cells #[.int .i64 0, .slice none 0 0] 34 (0, 0)) := blk_new (V := w1.drew) hb2)) | (go_at_call 32; refine (toTube_any t _).mono ?_; rintro e w3 ⟨rfl, hb3⟩; have X3 : Hid (Args w3 w.heap.size s (.slice a n ca) t) := (by first | exact X2.out.below hb3 | exact (X2.out.below ((Below.refl _ _).alloc (Nat.le_refl _) _)).below hb3); have B3 : Hid (Below w.heap.size w w3) := (by first | exact two_worldsC B2.out hb3 | exact two_worldsC (B2.out.alloc B2.out.size _) hb3); have Z3 : Hid (w1.heap.size ≤ w3.heap.size) := (by have h1 := Z2.out; have h2 := hb3.size; (try simp at h2); unfold Hid; omega); have R3 : Hid (RT w3 (some ⟨g2, 0, none⟩) ts) := (by first | exact R2.out.below hb3 | exact (R2.out.below ((Below.refl _ _).alloc (Nat.le_refl _) _)).below hb3); (first | (have QB := QB.below hb3) | (have QB := blk_new hb3) | skip)) | (go_at_call 31; refine (specAddTube_any s t g2 ts n n _ hn (by first | exact R3.out | exact R3.out.below ((Below.refl _ _).alloc (Nat.le_refl _) _)) hn').mono ?_; intro e w4 h4; rw [RES.out] at h4; obtain ⟨aw, cw, rfl, hb4, ho4⟩ := h4.elim HML; have X4 : Hid (Args w4 w.heap.size s (.slice a n ca) t) := (by first | exact X3.out.below hb4 | exact (X3.out.below ((Below.refl _ _).alloc (Nat.le_refl _) _)).below hb4); have B4 : Hid (Below w.heap.size w w4) := (by first | exact two_worldsC B3.out hb4 | exact two_worldsC (B3.out.alloc B3.out.size _) hb4); have O4 : Hid (w4.ownsRow w1.heap.size 43 3 (.slice aw m cw) m (flat ru)) := own_lo ho4 (by have h1 := Z3.out; (try simp); omega); (first | (have QB := QB.below hb4; obtain ⟨q1, q2⟩ := QB.net; have q3 := QB.free 0; have q4 := QB.free 1) | (have QB := blk_new hb4; obtain ⟨q1, q2⟩ := QB.net; have q3 := QB.free 0; have q4 := QB.free 1) | skip)))
      all_goals
        go_wp2_with fail
        go_meet
        first
          | exact ⟨_, aw, cw, rfl, rfl, X4.out.below ((Below.refl _ _).alloc (Nat.le_refl _) _), B4.out.alloc B4.out.size _, heap_alloc_new w4 _, O4.out.alloc _, by have h1 := Z3.out; have h2 := hb4.size; unfold Hid; simp; omega⟩
          | (have l1 := hb4.size
             have l2 := hb3.size
             have l3 := hb2.size
             have l4 := Z3.out
             have l5 := XD.out.2.lt
             (try simp at l1)
             (try simp at l2)
             (try simp at l3)
             (try simp at l5)
             have l6 := B1.out.size
             refine ⟨_, aw, cw, rfl, rfl, args_store X4.out (by omega) _ _, (B4.out.setCell (by show w.heap.size ≤ _; (try dsimp only); omega) _).setCell (by show w.heap.size ≤ _; (try dsimp only); omega) _, blk_store QB _ _, ownsRow_setCell_other (ownsRow_setCell_other O4.out (own_ne ho4 (by first | omega | (simp; done) | (simp; omega))) _) (own_ne ho4 (by first | omega | (simp; done) | (simp; omega))) _, by unfold Hid; simp; omega⟩)
    case rest =>
      obtain ⟨bw, aw, cw, rfl, rfl, X5, B5, W5, O5, S5⟩ := hcut
      generalize wc = w5 at *
      have hbw := W5.out.lt
      obtain ⟨p0, p1, t0, t1, t2⟩ := X5.out.cells
      go_wp2_with fail
      refine (toNet_any _ _ ts _ _ _ hn (HA.out _ B5.out) hn').mono ?_
      rintro e w6 ⟨g6, rfl, hg6, hb6, ho6⟩
      have hg6' := (ho6.lt g6 rfl).2
      have E6 : Below w5.heap.size w5 (w6.alloc (.cells #[.int .i64 s, .slice (some ⟨g6, 0, none⟩) n n] 34)) := hb6.alloc hb6.size _
      have X6 := Lib.hid (X5.out.below E6)
      have B6 := Lib.hid (two_worldsC B5.out E6)
      have W6 := Lib.hid (W5.out.below E6)
      have O6 := Lib.hid (O5.out.kept (grown_of_below E6 none) (own_none _))
      have XO6 := Lib.hid (ho6.alloc (.cells #[.int .i64 s, .slice (some ⟨g6, 0, none⟩) n n] 34))
      have XB6 : Hid (Blk (w6.alloc (.cells #[.int .i64 s, .slice (some ⟨g6, 0, none⟩) n n] 34)) w6.heap.size (.cells #[.int .i64 s, .slice (some ⟨g6, 0, none⟩) n n] 34 (0, 0))) := heap_alloc_new w6 _
      have S6 : Hid (w6.heap.size < (w6.alloc (.cells #[.int .i64 s, .slice (some ⟨g6, 0, none⟩) n n] 34)).heap.size) := by unfold Hid; simp
      have hs56 := hb6.size
      clear E6 hb6 ho6 p0 p1 t0 t1 t2
      go_upto_region 7 with fail
      generalize hV6 : w6.alloc (.cells #[.int .i64 s, .slice (some ⟨g6, 0, none⟩) n n] 34) = v6 at *
      clear hV6
      generalize w6.heap.size = bx at *
      have N6 : Hid (w5.heap.size ≤ g6 ∧ g6 < bx ∧ bw < w5.heap.size ∧ w1.heap.size ≤ w5.heap.size ∧ bx < v6.heap.size ∧ w.heap.size + 1 < w1.heap.size) := ⟨hg6, hg6', hbw, S5.out, S6.out, z1⟩
      clear hg6 hg6' hbw hs56 S6
      go_cut [9, 10] (fun s9 s10 wx => ∃ (bg : Nat) (ag : Option Addr) (cg : Nat), s9 = .pointer (some ⟨bg, 0, none⟩) ∧ s10 = .int .i64 rc ∧ Hid (Args wx w.heap.size s (.slice a n ca) t) ∧ Hid (Below w.heap.size w wx) ∧ Hid (Blk wx bg (.cells #[.int .i64 rs, .slice ag m cg] 34 (0, 0))) ∧ Hid (wx.ownsRow v6.heap.size 43 3 (.slice ag m cg) m (flat ru)) ∧ Hid (Below v6.heap.size v6 wx) ∧ Hid (v6.heap.size ≤ bg ∧ ∀ k, Value.ownBlock (.slice ag m cg) = some k → k ≠ bg))
      case first =>
        have XD : Hid (Args v6.drew w.heap.size s (.slice a n ca) t) := X6.out
        have XBD : Hid (Blk v6.drew bx (.cells #[.int .i64 s, .slice (some ⟨g6, 0, none⟩) n n] 34 (0, 0))) := XB6.out
        have BD : Hid (Below v6.heap.size v6 v6.drew) := (Below.refl _ _).drew
        have R6 : Hid (∀ w', Below v6.heap.size v6 w' → RT w' (some ⟨g6, 0, none⟩) ts) := fun w' h => (row_RT hn XO6.out).below h
        go_region_held3 (fun w' => w'.cell? ⟨bx, 0, none⟩ = some (.int .i64 s) ∧ w'.cell? ⟨bx, 1, none⟩ = some (.slice (some ⟨g6, 0, none⟩) n n) ∧ w'.cell? ⟨w.heap.size + 1, 0, none⟩ = some (.int .i64 t.1) ∧ w'.cell? ⟨w.heap.size + 1, 1, none⟩ = some (.int .i64 t.2.1) ∧ w'.cell? ⟨w.heap.size + 1, 2, none⟩ = some (.int .i64 t.2.2))
          (first | exact s7_of XD.out XBD.out | exact s7_of (XD.out.below ((Below.refl _ _).alloc (Nat.le_refl _) _)) (XBD.out.below ((Below.refl _ _).alloc (Nat.le_refl _) _)) | exact s7_of X7.out XB7.out | exact s7_of (X7.out.below ((Below.refl _ _).alloc (Nat.le_refl _) _)) (XB7.out.below ((Below.refl _ _).alloc (Nat.le_refl _) _)) | exact s7_of X8.out XB8.out | exact s7_of (X8.out.below ((Below.refl _ _).alloc (Nat.le_refl _) _)) (XB8.out.below ((Below.refl _ _).alloc (Nat.le_refl _) _)) | exact s7_of (args_store X8.out X7.out.2.lt _ _) (blk_other XB8.out XB7.out.lt _ _) | exact s7_of (args_store X8.out XD.out.2.lt _ _) (blk_other XB8.out XBD.out.lt _ _))
          (first | (go_at_call 32; refine (toTube_any t _).mono ?_; rintro e w7 ⟨rfl, hb7⟩; have X7 : Hid (Args w7 w.heap.size s (.slice a n ca) t) := (by first | exact XD.out.below hb7 | exact (XD.out.below ((Below.refl _ _).alloc (Nat.le_refl _) _)).below hb7); have XB7 : Hid (Blk w7 bx (.cells #[.int .i64 s, .slice (some ⟨g6, 0, none⟩) n n] 34 (0, 0))) := (by first | exact XBD.out.below hb7 | exact (XBD.out.below ((Below.refl _ _).alloc (Nat.le_refl _) _)).below hb7); have B7 : Hid (Below v6.heap.size v6 w7) := (by first | exact two_worldsC BD.out hb7 | exact two_worldsC (BD.out.alloc (Nat.le_refl _) _) hb7); (try have QB : Blk w7 v6.heap.size (.cells #[.int .i64 0, .slice none 0 0] 34 (0, 0)) := blk_new (V := v6.drew) hb7)) | (go_at_call 33; refine (implAddTube_any s t g6 ts n n _ hn (R6.out _ (by first | exact B7.out | exact B7.out.alloc B7.out.size _)) hn').mono ?_; intro e w8 h8; rw [RES.out] at h8; obtain ⟨ag, cg, rfl, hb8, ho8⟩ := h8.elim HML; have X8 : Hid (Args w8 w.heap.size s (.slice a n ca) t) := (by first | exact X7.out.below hb8 | exact (X7.out.below ((Below.refl _ _).alloc (Nat.le_refl _) _)).below hb8); have XB8 : Hid (Blk w8 bx (.cells #[.int .i64 s, .slice (some ⟨g6, 0, none⟩) n n] 34 (0, 0))) := (by first | exact XB7.out.below hb8 | exact (XB7.out.below ((Below.refl _ _).alloc (Nat.le_refl _) _)).below hb8); have B8 : Hid (Below v6.heap.size v6 w8) := (by first | exact two_worldsC B7.out hb8 | exact two_worldsC (B7.out.alloc B7.out.size _) hb8); have O8 : Hid (w8.ownsRow v6.heap.size 43 3 (.slice ag m cg) m (flat ru)) := own_lo ho8 (by have h1 := B7.out.size; (try simp); omega); (first | (have QB := QB.below hb8; obtain ⟨q1, q2⟩ := QB.net; have q3 := QB.free 0; have q4 := QB.free 1) | (have QB := blk_new hb8; obtain ⟨q1, q2⟩ := QB.net; have q3 := QB.free 0; have q4 := QB.free 1) | skip)))
        all_goals
          go_wp2_with fail
          go_meet
          first
            | exact ⟨_, ag, cg, rfl, rfl, X8.out.below ((Below.refl _ _).alloc (Nat.le_refl _) _), (two_worldsC B6.out B8.out).alloc (two_worldsC B6.out B8.out).size _, heap_alloc_new w8 _, O8.out.alloc _, B8.out.alloc B8.out.size _, ⟨B8.out.size, fun k e => by have := (O8.out.lt k e).2; omega⟩⟩
            | (have l1 := hb8.size
               have l2 := hb7.size
               have l4 := XD.out.2.lt
               have l5 := B6.out.size
               have l6 := B7.out.size
               (try simp at l1)
               (try simp at l2)
               (try simp at l4)
               refine ⟨_, ag, cg, rfl, rfl, args_store X8.out (by omega) _ _, ((two_worldsC B6.out B8.out).setCell (by show w.heap.size ≤ _; (try dsimp only); omega) _).setCell (by show w.heap.size ≤ _; (try dsimp only); omega) _, blk_store QB _ _, ownsRow_setCell_other (ownsRow_setCell_other O8.out (own_ne ho8 (by first | omega | (simp; done) | (simp; omega))) _) (own_ne ho8 (by first | omega | (simp; done) | (simp; omega))) _, (B8.out.setCell (by show v6.heap.size ≤ _; (try dsimp only); omega) _).setCell (by show v6.heap.size ≤ _; (try dsimp only); omega) _, ⟨by omega, fun k e h => own_ne (k := k) ho8 (by rw [h]; first | omega | (simp; done) | (simp; omega)) e⟩⟩)
      case rest =>
        obtain ⟨bg, ag, cg, rfl, rfl, X9, B9, G9, O9, V9, N9⟩ := hcut
        generalize wc = w9 at *
        have W9 := Lib.hid (W6.out.below V9.out)
        have OW9 := Lib.hid (O6.out.kept (grown_of_below V9.out none) (own_none _))
        have XB9 := Lib.hid (XB6.out.below V9.out)
        have XO9 := Lib.hid (XO6.out.kept (grown_of_below V9.out none) (own_none _))
        have OLT : Hid (∀ k, (Value.ownBlock (.slice aw m cw)) = some k → k < w5.heap.size) := fun k e => (O5.out.lt k e).2
        clear X5 X6 B5 B6 W5 W6 O6 XB6 XO6 S5
        have R9 := Lib.hid (row_RT hn XO9.out)
        have Q9 := Lib.hid (rowO_RT HML O9.out)
        have U9 := Lib.hid (rowO_RT HML OW9.out)
        obtain ⟨g0, g1⟩ := G9.out.net
        obtain ⟨h0, h1⟩ := W9.out.net
        go_wp2_with fail
        refine (eqNet_any rs rs _ _ ru ru _ _ _ _ _ HML HML Q9.out U9.out HMM.out).mono ?_
        rintro e w10 ⟨rfl, hb10⟩
        have X10 := Lib.hid (X9.out.below hb10)
        have B10 := Lib.hid (two_worldsC B9.out hb10)
        have V10 := Lib.hid (two_worldsC V9.out hb10)
        have W10 := Lib.hid (W9.out.below hb10)
        have G10 := Lib.hid (G9.out.below hb10)
        have XB10 := Lib.hid (XB9.out.below hb10)
        have OW10 := Lib.hid (OW9.out.kept (grown_of_below hb10 none) (own_none _))
        have O10 := Lib.hid (O9.out.kept (grown_of_below hb10 none) (own_none _))
        have XO10 := Lib.hid (XO9.out.kept (grown_of_below hb10 none) (own_none _))
        clear hb10 X9 B9 V9 W9 G9 XB9 OW9 O9 XO9 R9 Q9 U9 g0 g1 h0 h1
        have R10 := Lib.hid (row_RT hn XO10.out)
        obtain ⟨x0, x1⟩ := XB10.out.net
        obtain ⟨p0, p1⟩ := X10.out.1.net
        go_wp2_with fail
        go_region_held3 (fun w' => w'.cell? ⟨w.heap.size, 0, none⟩ = some (.int .i64 s) ∧ w'.cell? ⟨w.heap.size, 1, none⟩ = some (.slice a n ca) ∧ w'.cell? ⟨bx, 0, none⟩ = some (.int .i64 s) ∧ w'.cell? ⟨bx, 1, none⟩ = some (.slice (some ⟨g6, 0, none⟩) n n))
          (first | exact ⟨p0, p1, x0, x1⟩ | exact two_boxes (w := w10.drew) ⟨p0, p1⟩ ⟨x0, x1⟩ hb11 | exact two_boxes (w := w10.drew) ⟨p0, p1⟩ ⟨x0, x1⟩ (two_worlds hb11 hb12))
          (first | (go_at_call 26; refine (toNet_any _ _ ts _ _ _ hn (HA.out _ B10.out.drew) hn').mono ?_; rintro e w11 ⟨g11, rfl, hg11, hb11, ho11⟩) | (go_at_call 28; refine (eqNet_any s s _ _ ts ts _ _ _ _ _ hn hn ((R10.out.below (Below.refl _ _).drew).below hb11) (row_RT hn ho11) HM.out).mono ?_; rintro e w12 ⟨rfl, hb12⟩))
        have E12 : Below w10.heap.size w10 w12 := (Below.refl _ _).drew.trans (two_worlds hb11 hb12)
        have X12 := Lib.hid (X10.out.below E12)
        have B12 := Lib.hid (two_worldsC B10.out E12)
        have V12 := Lib.hid (two_worldsC V10.out E12)
        have W12 := Lib.hid (W10.out.below E12)
        have G12 := Lib.hid (G10.out.below E12)
        have XB12 := XB10.out.below E12
        have OW12 := Lib.hid (OW10.out.kept (grown_of_below E12 none) (own_none _))
        have O12 := Lib.hid (O10.out.kept (grown_of_below E12 none) (own_none _))
        have XO12 := Lib.hid (XO10.out.kept (grown_of_below E12 none) (own_none _))
        clear E12 hb11 hb12 ho11 hg11 X10 B10 V10 W10 G10 XB10 OW10 O10 XO10 R10 x0 x1 p0 p1
        obtain ⟨x0, x1⟩ := XB12.net
        go_wp2_with fail
        refine (markNet_any s (some ⟨g6, 0, none⟩) _ _ n n 1 _ XO12.out (by omega) (by omega) (by omega)).mono ?_
        rintro e w13 ⟨rfl, hgr13, _⟩
        have NE : Hid (∀ k, (Value.ownBlock (.slice (some ⟨g6, 0, none⟩) n n)) = some k → k = g6) := fun k e => by simp [Value.ownBlock] at e; omega
        have X13 := Lib.hid (X12.out.kept hgr13 (fun k e => by have := NE.out k e; have := N6.out; omega))
        have W13 := Lib.hid (W12.out.kept hgr13 (fun e => by have := NE.out _ e; have := N6.out; omega))
        have G13 := Lib.hid (G12.out.kept hgr13 (fun e => by have := NE.out _ e; have := N6.out; have := N9.out.1; omega))
        have OW13 := Lib.hid (OW12.out.kept hgr13 (.inr (fun e => by have := OLT.out g6 e; have := N6.out; omega)))
        have O13 := Lib.hid (O12.out.kept hgr13 (.inr (fun e => by have := (O12.out.lt g6 e).1; have := N6.out; omega)))
        have B13 : Hid (Below w.heap.size w w13) := B12.out.grown hgr13 B12.out.size (fun k e => by have := NE.out k e; have := N6.out; omega)
        have V13 : Hid (v6.heap.size ≤ w13.heap.size) := Nat.le_trans V12.out.size hgr13.size
        clear hgr13 X12 B12 V12 W12 G12 XB12 OW12 O12 XO12 x0 x1
        have Q13 := Lib.hid (rowO_RT HML O13.out)
        have U13 := Lib.hid (rowO_RT HML OW13.out)
        obtain ⟨g0, g1⟩ := G13.out.net
        obtain ⟨h0, h1⟩ := W13.out.net
        go_wp2_with fail
        refine (eqNet_any rs rs _ _ ru ru _ _ _ _ _ HML HML Q13.out U13.out HMM.out).mono ?_
        rintro e w14 ⟨rfl, hb14⟩
        have X14 := Lib.hid (X13.out.below hb14)
        have B14 := Lib.hid (two_worldsC B13.out hb14)
        have V14 : Hid (v6.heap.size ≤ w14.heap.size) := Nat.le_trans V13.out hb14.size
        have W14 := Lib.hid (W13.out.below hb14)
        have G14 := G13.out.below hb14
        have OW14 := Lib.hid (OW13.out.kept (grown_of_below hb14 none) (own_none _))
        have O14 := Lib.hid (O13.out.kept (grown_of_below hb14 none) (own_none _))
        clear hb14 X13 B13 V13 W13 G13 OW13 O13 Q13 U13 g0 g1 h0 h1
        obtain ⟨g0, g1⟩ := G14.net
        have G14' := Lib.hid G14
        clear G14
        go_wp2_with fail
        refine (markNet_any rs ag _ _ m cg 1 _ O14.out (by omega) (by omega) (by omega)).mono ?_
        rintro e w15 ⟨rfl, hgr15, hom15⟩
        have OG : Hid (∀ k, Value.ownBlock (.slice ag m cg) = some k → v6.heap.size ≤ k ∧ k < w14.heap.size) := fun k e => O14.out.lt k e
        have X15 := Lib.hid (X14.out.kept hgr15 (fun k e => by have := OG.out k e; have := N6.out; omega))
        have W15 := Lib.hid (W14.out.kept hgr15 (fun e => by have := OG.out _ e; have := N6.out; omega))
        have G15 := G14'.out.kept hgr15 (fun e => N9.out.2 _ e rfl)
        have OW15 := Lib.hid (OW14.out.kept hgr15 (own_apart (fun k e => OLT.out k e) (fun k e => (OG.out k e).1) (by have := N6.out; omega)))
        have OM15 := Lib.hid hom15
        have B15 : Hid (Below w.heap.size w w15) := B14.out.grown hgr15 B14.out.size (fun k e => by have := OG.out k e; have := N6.out; omega)
        clear hgr15 hom15 X14 B14 W14 G14' OW14 O14 OG V14 g0 g1
        have HMK : Hid ((marksT 1 m).length = m) := marksT_length _ _
        have M15 := Lib.hid (rowO_RT HMK OM15.out)
        have G15' := Lib.hid G15
        obtain ⟨g0, g1⟩ := G15.net
        go_wp2_with fail
        refine (heldNet_any rs ag m cg 1 _ M15.out (by omega) (by omega) (by omega)).mono ?_
        rintro e w16 ⟨rfl, hb16⟩
        have X16 := Lib.hid (X15.out.below hb16)
        have B16 := Lib.hid (two_worldsC B15.out hb16)
        have W16 := Lib.hid (W15.out.below hb16)
        have G16 := Lib.hid (G15'.out.below hb16)
        have M16 := Lib.hid (M15.out.below hb16)
        have OW16 := Lib.hid (OW15.out.kept (grown_of_below hb16 none) (own_none _))
        clear hb16 X15 B15 W15 G15 G15' OW15 OM15 M15 g0 g1
        obtain ⟨p0, p1, t0, t1, t2⟩ := X16.out.cells
        go_upto_region 24 with fail
        go_cut [14, 15] (fun s14 s15 wx => ∃ (bh : Nat) (ah : Option Addr) (ch : Nat), s14 = .pointer (some ⟨bh, 0, none⟩) ∧ s15 = .int .i64 rc ∧ Hid (Below w.heap.size w wx) ∧ Hid (Blk wx bh (.cells #[.int .i64 rs, .slice ah m ch] 34 (0, 0))) ∧ Hid (wx.ownsRow w16.heap.size 43 3 (.slice ah m ch) m (flat ru)) ∧ Hid (Below w16.heap.size w16 wx))
        case first =>
          have XD : Hid (Args w16.drew w.heap.size s (.slice a n ca) t) := X16.out
          have BD : Hid (Below w16.heap.size w16 w16.drew) := (Below.refl _ _).drew
          go_region_held3 (fun w' => w'.cell? ⟨w.heap.size, 0, none⟩ = some (.int .i64 s) ∧ w'.cell? ⟨w.heap.size, 1, none⟩ = some (.slice a n ca) ∧ w'.cell? ⟨w.heap.size + 1, 0, none⟩ = some (.int .i64 t.1) ∧ w'.cell? ⟨w.heap.size + 1, 1, none⟩ = some (.int .i64 t.2.1) ∧ w'.cell? ⟨w.heap.size + 1, 2, none⟩ = some (.int .i64 t.2.2))
            (first | exact XD.out.cells | exact (XD.out.below ((Below.refl _ _).alloc (Nat.le_refl _) _)).cells | exact Y2.out.cells | exact (Y2.out.below ((Below.refl _ _).alloc (Nat.le_refl _) _)).cells | exact Y3.out.cells | exact (Y3.out.below ((Below.refl _ _).alloc (Nat.le_refl _) _)).cells | exact Y4.out.cells | exact (Y4.out.below ((Below.refl _ _).alloc (Nat.le_refl _) _)).cells | exact (args_store Y4.out Y3.out.2.lt _ _).cells | exact (args_store Y4.out Y2.out.2.lt _ _).cells | exact (args_store Y4.out XD.out.2.lt _ _).cells)
            (first | (go_at_call 26; refine (toNet_any _ _ ts _ _ _ hn (HA.out _ (by first | exact two_worldsC B16.out BD.out | exact two_worldsC B16.out (BD.out.alloc (Nat.le_refl _) _))) hn').mono ?_; rintro e w2 ⟨g2, rfl, hg2, hb2, ho2⟩; have Y2 : Hid (Args w2 w.heap.size s (.slice a n ca) t) := (by first | exact XD.out.below hb2 | exact (XD.out.below ((Below.refl _ _).alloc (Nat.le_refl _) _)).below hb2); have Z2 : Hid (Below w16.heap.size w16 w2) := (by first | exact two_worldsC BD.out hb2 | exact two_worldsC (BD.out.alloc (Nat.le_refl _) _) hb2); have R2 := Lib.hid (row_RT hn ho2); (try have QB : Blk w2 w16.heap.size (.cells #[.int .i64 0, .slice none 0 0] 34 (0, 0)) := blk_new (V := w16.drew) hb2)) | (go_at_call 32; refine (toTube_any t _).mono ?_; rintro e w3 ⟨rfl, hb3⟩; have Y3 : Hid (Args w3 w.heap.size s (.slice a n ca) t) := (by first | exact Y2.out.below hb3 | exact (Y2.out.below ((Below.refl _ _).alloc (Nat.le_refl _) _)).below hb3); have Z3 : Hid (Below w16.heap.size w16 w3) := (by first | exact two_worldsC Z2.out hb3 | exact two_worldsC (Z2.out.alloc Z2.out.size _) hb3); have R3 : Hid (RT w3 (some ⟨g2, 0, none⟩) ts) := (by first | exact R2.out.below hb3 | exact (R2.out.below ((Below.refl _ _).alloc (Nat.le_refl _) _)).below hb3); (first | (have QB := QB.below hb3) | (have QB := blk_new hb3) | skip)) | (go_at_call 33; refine (implAddTube_any s t g2 ts n n _ hn (by first | exact R3.out | exact R3.out.below ((Below.refl _ _).alloc (Nat.le_refl _) _)) hn').mono ?_; intro e w4 h4; rw [RES.out] at h4; obtain ⟨ah, ch, rfl, hb4, ho4⟩ := h4.elim HML; have Y4 : Hid (Args w4 w.heap.size s (.slice a n ca) t) := (by first | exact Y3.out.below hb4 | exact (Y3.out.below ((Below.refl _ _).alloc (Nat.le_refl _) _)).below hb4); have Z4 : Hid (Below w16.heap.size w16 w4) := (by first | exact two_worldsC Z3.out hb4 | exact two_worldsC (Z3.out.alloc Z3.out.size _) hb4); have O4 : Hid (w4.ownsRow w16.heap.size 43 3 (.slice ah m ch) m (flat ru)) := own_lo ho4 (by have h1 := Z3.out.size; (try simp); omega); (first | (have QB := QB.below hb4; obtain ⟨q1, q2⟩ := QB.net; have q3 := QB.free 0; have q4 := QB.free 1) | (have QB := blk_new hb4; obtain ⟨q1, q2⟩ := QB.net; have q3 := QB.free 0; have q4 := QB.free 1) | skip)))
          all_goals
            go_wp2_with fail
            go_meet
            first
              | exact ⟨_, ah, ch, rfl, rfl, (two_worldsC B16.out Z4.out).alloc (two_worldsC B16.out Z4.out).size _, heap_alloc_new w4 _, O4.out.alloc _, Z4.out.alloc Z4.out.size _⟩
              | (have l1 := hb4.size
                 have l2 := hb3.size
                 have l3 := hb2.size
                 have l5 := B16.out.size
                 have l6 := Z2.out.size
                 have l7 := Z3.out.size
                 (try simp at l1)
                 (try simp at l2)
                 (try simp at l3)
                 refine ⟨_, ah, ch, rfl, rfl, ((two_worldsC B16.out Z4.out).setCell (by show w.heap.size ≤ _; (try dsimp only); omega) _).setCell (by show w.heap.size ≤ _; (try dsimp only); omega) _, blk_store QB _ _, ownsRow_setCell_other (ownsRow_setCell_other O4.out (own_ne ho4 (by first | omega | (simp; done) | (simp; omega))) _) (own_ne ho4 (by first | omega | (simp; done) | (simp; omega))) _, (Z4.out.setCell (by show w16.heap.size ≤ _; (try dsimp only); omega) _).setCell (by show w16.heap.size ≤ _; (try dsimp only); omega) _⟩)
        case rest =>
          obtain ⟨bh, ah, ch, rfl, rfl, B17, H17, O17, V17⟩ := hcut
          generalize wc = w17 at *
          have W17 := W16.out.below V17.out
          have G17 := Lib.hid (G16.out.below V17.out)
          have M17 := Lib.hid (M16.out.below V17.out)
          have OW17 := Lib.hid (OW16.out.kept (grown_of_below V17.out none) (own_none _))
          have Q17 := Lib.hid (rowO_RT HML O17.out)
          have U17 := Lib.hid (rowO_RT HML OW17.out)
          obtain ⟨h0, h1⟩ := H17.out.net
          obtain ⟨v0, v1⟩ := W17.net
          clear W17 W16 G16 M16 OW16 X16 B16 O17 OW17 V17 p0 p1 t0 t1 t2
          go_wp2_with fail
          refine (eqNet_any rs rs _ _ ru ru _ _ _ _ _ HML HML Q17.out U17.out HMM.out).mono ?_
          rintro e w18 ⟨rfl, hb18⟩
          have G18 := G17.out.below hb18
          have M18 := Lib.hid (M17.out.below hb18)
          have B18 := Lib.hid (two_worldsC B17.out hb18)
          clear hb18 Q17 U17 h0 h1 v0 v1 G17 M17
          obtain ⟨g0, g1⟩ := G18.net
          clear G18
          go_wp2_with fail
          refine (heldNet_any rs ag m cg 1 _ M18.out (by omega) (by omega) (by omega)).mono ?_
          rintro e w19 ⟨rfl, hb19⟩
          have hfin := two_worldsC B18.out hb19
          clear hb19
          go_wp2
          go_ret
          exact ⟨rfl, hfin⟩
end Go.Proofs.Ytemeaeafdhgfaaa.fnExactAddTube
