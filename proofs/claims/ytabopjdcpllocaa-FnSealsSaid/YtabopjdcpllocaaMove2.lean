/-
  One move in a stock of one's own: l07Send, isPossible, apply.
-/
import Derived.Test.YtabopjdcpllocaaMove
namespace Go.Proofs.Ytabopjdcpllocaa
open Go.RowKit

def sendL (l : List Int) (f t : Nat) (x : Int) : List Int := if x ≤ l.getD f 0 then movL l f t x else l
theorem sendL_len (l : List Int) (f t : Nat) (x : Int) : (sendL l f t x).length = l.length := by unfold sendL; split; exact movL_len ..; rfl
theorem mov_first {W : World} {lo g n cap : Nat} {l : List Int} (h : OwnL lo g n cap l W) (f : Nat) (x : Int) : OwnL lo g n cap (l.set f x) (W.setCell ⟨g, f, none⟩ (.int .i64 x)) := h.store f x
theorem mov_second {W : World} {lo g n cap : Nat} {l : List Int} {f t : Nat} {x : Int} (hf : f < l.length) (ht : t < l.length) (hne : f ≠ t) (h : OwnL lo g n cap (l.set f (l[f] - x)) W) :
    W.cell? ⟨g, t, none⟩ = some (.int .i64 l[t]) ∧ OwnL lo g n cap (movL l f t x) (W.setCell ⟨g, t, none⟩ (.int .i64 (l[t] + x))) := by
  refine ⟨?_, ?_⟩
  · have := h.cell t (by simpa using ht)
    rw [List.getElem_set, if_neg hne] at this
    exact this
  · have := h.store t (l[t] + x)
    rw [show (l.set f (l[f] - x)).set t (l[t] + x) = movL l f t x by rw [movL, getD_at hf, getD_at ht]] at this
    exact this
theorem cell_other {W : World} {g i : Nat} {p : Addr} {u v : Value} (hne : p.block ≠ g) (h : W.cell? p = some v) : (W.setCell ⟨g, i, none⟩ u).cell? p = some v := (World.cell?_setCell_other _ _ _ _ (fun h2 => hne (by rw [← h2]))).trans h

set_option maxRecDepth 20000 in
set_option maxHeartbeats 4000000 in
theorem l07Send_any (pb po lo g n cap : Nat) (l : List Int) (fn tn : Nat) (x : Int) (w : World) (hn : Hid (l.length = n)) (h1 : fn < n) (h2 : tn < n) (hne : fn ≠ tn) (hx : 1 ≤ x ∧ x ≤ 200) (ht : tameL l) (ho : OwnL lo g n cap l w) (hpg : pb ≠ g)
    (p0 : w.cell? ⟨pb, po, none⟩ = some (.int .i64 fn)) (p1 : w.cell? ⟨pb, po + 1, none⟩ = some (.int .i64 tn)) (p2 : w.cell? ⟨pb, po + 2, none⟩ = some (.int .i64 x)) :
    Calls Try.prog 60 #[.slice (some ⟨g, 0, none⟩) n cap, .pointer (some ⟨pb, po, none⟩)] w fun e w' => e = .returned (.bool (decide (x ≤ l.getD fn 0))) ∧ w.grownBy w' (some g) ∧ OwnL lo g n cap (sendL l fn tn x) w' := by
  have hfl : fn < l.length := by rw [hn.out]; exact h1
  have htl : tn < l.length := by rw [hn.out]; exact h2
  have hb1 := ht fn hfl
  have hb2 := ht tn htl
  have HFV := Lib.hid (getD_at hfl)
  have s0 := ho.cell fn hfl
  have HO := Lib.hid ho
  have M1 : Hid (∀ W, OwnL lo g n cap l W → OwnL lo g n cap (l.set fn (l[fn] - x)) (W.setCell ⟨g, fn, none⟩ (.int .i64 (l[fn] - x)))) := fun W h => mov_first h fn _
  have M2 : Hid (∀ W, OwnL lo g n cap (l.set fn (l[fn] - x)) W → W.cell? ⟨g, tn, none⟩ = some (.int .i64 l[tn]) ∧ OwnL lo g n cap (movL l fn tn x) (W.setCell ⟨g, tn, none⟩ (.int .i64 (l[tn] + x)))) := fun W h => mov_second hfl htl hne h
  have hk0 : (0 : Int) ≤ (fn : Int) := by omega
  have hk1 : (fn : Int) < (n : Int) := by omega
  have hj0 : (0 : Int) ≤ (tn : Int) := by omega
  have hj1 : (tn : Int) < (n : Int) := by omega
  clear ho ht
  generalize l[fn] = fv at s0 HFV hb1 M1 M2
  generalize l[tn] = tv at hb2 M2
  by_cases hlt : fv < x
  · have HR : Hid (decide (x ≤ l.getD fn 0) = false ∧ sendL l fn tn x = l) := ⟨by rw [HFV.out]; exact decide_eq_false (by omega), by unfold sendL; rw [HFV.out, if_neg (by omega)]⟩
    go_enter Try.func60, Try.ntmps60
    go_wp2_with fail
    go_quiet (fail)
    go_wp2
    go_ret
    rw [HR.out.1, HR.out.2]
    exact ⟨rfl, grown_below (Below.drewN' (Below.refl _ _) _) _, HO.out.drewN _⟩
  · have HR : Hid (decide (x ≤ l.getD fn 0) = true ∧ sendL l fn tn x = movL l fn tn x) := ⟨by rw [HFV.out]; exact decide_eq_true (by omega), by unfold sendL; rw [HFV.out, if_pos (by omega)]⟩
    have HP := Lib.hid (And.intro p0 (And.intro p1 p2))
    have HW : Hid (w.grownBy w (some g)) := grown_refl _ _
    go_enter Try.func60, Try.ntmps60
    go_wp2_with fail
    go_quiet (fail)
    have q0 : (w.drewN nq).cell? ⟨pb, po, none⟩ = some (.int .i64 fn) := p0
    have q1 : (w.drewN nq).cell? ⟨pb, po + 1, none⟩ = some (.int .i64 tn) := p1
    have q2 : (w.drewN nq).cell? ⟨pb, po + 2, none⟩ = some (.int .i64 x) := p2
    have t0 : (w.drewN nq).cell? ⟨g, fn, none⟩ = some (.int .i64 fv) := s0
    have z0 := ownsRow_frozen (HO.out.drewN nq) fn
    have HO2 := Lib.hid (HO.out.drewN nq)
    have HG2 : Hid (w.grownBy (w.drewN nq) (some g)) := grown_below (Below.drewN' (Below.refl _ _) _) _
    clear p0 p1 p2 s0 HO HP
    generalize w.drewN nq = w2 at q0 q1 q2 t0 z0 HO2 HG2
    go_wp2_with fail
    go_still_tail 13, (by kernel_rfl)
    change wpList _ _ _ _ _ w2.drew
    have HG3 : Hid (w.grownBy w2.drew (some g)) := ⟨HG2.out.os, HG2.out.tape, HG2.out.output, HG2.out.size, HG2.out.block⟩
    have HO3 := Lib.hid (M1.out _ HO2.out.drew)
    have r0 := cell_other (g := g) (i := fn) (u := .int .i64 (fv - x)) hpg (show w2.drew.cell? ⟨pb, po, none⟩ = some (.int .i64 fn) from q0)
    have r1 := cell_other (g := g) (i := fn) (u := .int .i64 (fv - x)) hpg (show w2.drew.cell? ⟨pb, po + 1, none⟩ = some (.int .i64 tn) from q1)
    have r2 := cell_other (g := g) (i := fn) (u := .int .i64 (fv - x)) hpg (show w2.drew.cell? ⟨pb, po + 2, none⟩ = some (.int .i64 x) from q2)
    have z1 : w2.drew.frozen? ⟨g, fn, none⟩ = false := z0
    have u0 : w2.drew.cell? ⟨g, fn, none⟩ = some (.int .i64 fv) := t0
    have HR1 := Lib.hid (And.intro r0 (And.intro r1 r2))
    clear q0 q1 q2 t0 z0 HO2 HG2 r0 r1 r2
    generalize w2.drew = w3 at z1 u0 HG3 HO3 HR1
    go_wp2_with fail
    have HG4 := Lib.hid (grown_setCell (o := fn) HG3.out (.int .i64 (fv - x)))
    obtain ⟨r0, r1, r2⟩ := HR1.out
    have v0 := (M2.out _ HO3.out).1
    clear z1 u0 HG3 HR1
    generalize w3.setCell ⟨g, fn, none⟩ (.int .i64 (fv - x)) = w4 at HG4 HO3 r0 r1 r2 v0
    go_still_tail 13, (by kernel_rfl)
    change wpList _ _ _ _ _ w4.drew
    have HG5 : Hid (w.grownBy w4.drew (some g)) := ⟨HG4.out.os, HG4.out.tape, HG4.out.output, HG4.out.size, HG4.out.block⟩
    have HO5 := Lib.hid (M2.out w4.drew HO3.out).2
    have z2 : w4.drew.frozen? ⟨g, tn, none⟩ = false := ownsRow_frozen HO3.out tn
    have v1 : w4.drew.cell? ⟨g, tn, none⟩ = some (.int .i64 tv) := v0
    clear r0 r1 r2 v0 HO3 HG4
    generalize w4.drew = w5 at HG5 HO5 z2 v1
    go_wp2
    go_ret
    rw [HR.out.1, HR.out.2]
    exact ⟨rfl, grown_setCell HG5.out _, HO5.out⟩

set_option maxHeartbeats 1000000 in
theorem isPossible_any (a : Option Addr) (l : List Int) (n ca : Nat) (fn : Nat) (y x : Int) (w : World) (hn : Hid (l.length = n)) (ha : RI w a l) (h1 : fn < n) :
    Calls Try.prog 54 #[.agg #[.int .i64 fn, .int .i64 y, .int .i64 x], .slice a n ca] w fun e w' => e = .returned (.bool (decide (x ≤ l.getD fn 0))) ∧ Below w.heap.size w w' := by
  have hfl : fn < l.length := by rw [hn.out]; exact h1
  have HFV := Lib.hid (getD_at hfl)
  obtain ⟨b, off, rfl, hb, x1⟩ := ha.at_ fn hfl
  have x2 : (w.alloc (.cells #[.int .i64 fn, .int .i64 y, .int .i64 x] 44)).cell? ⟨b, off + fn, none⟩ = some (.int .i64 l[fn]) := (((Below.refl w.heap.size w).alloc (Nat.le_refl _) _).cell (p := ⟨b, off + fn, none⟩) hb).trans x1
  clear ha x1
  generalize l[fn] = fv at x2 HFV
  have HR : Hid (decide (x ≤ l.getD fn 0) = decide (x ≤ fv)) := by unfold Hid; rw [HFV.out]
  have hk0 : (0 : Int) ≤ (fn : Int) := by omega
  have hk1 : (fn : Int) < (n : Int) := by omega
  go_enter Try.func54, Try.ntmps54
  go_wp2_with fail
  have y0 : (w.alloc (.cells #[.int .i64 fn, .int .i64 y, .int .i64 x] 44)).cell? ⟨w.heap.size, 0, none⟩ = some (.int .i64 fn) := by simp [go_sem]
  have y2 : (w.alloc (.cells #[.int .i64 fn, .int .i64 y, .int .i64 x] 44)).cell? ⟨w.heap.size, 2, none⟩ = some (.int .i64 x) := by simp [go_sem]
  have HB : Hid (Below w.heap.size w (w.alloc (.cells #[.int .i64 fn, .int .i64 y, .int .i64 x] 44))) := (by repeat (first | exact Below.refl _ _ | refine Below.alloc ?_ (by simp; try omega) _ | refine Below.setCell ?_ (by simp; try omega) _))
  generalize w.alloc (.cells #[.int .i64 fn, .int .i64 y, .int .i64 x] 44) = w1 at y0 y2 x2 HB
  go_quiet (fail)
  go_wp2
  go_ret
  rw [HR.out]
  exact ⟨rfl, Below.drewN' HB.out _⟩

set_option maxRecDepth 20000 in
set_option maxHeartbeats 4000000 in
theorem apply_any (lo g n cap : Nat) (l : List Int) (fn tn : Nat) (x : Int) (w : World) (hn : Hid (l.length = n)) (h1 : fn < n) (h2 : tn < n) (hne : fn ≠ tn) (hx : 1 ≤ x ∧ x ≤ 200) (ht : tameL l) (ho : OwnL lo g n cap l w) (hgw : g < w.heap.size) :
    Calls Try.prog 56 #[.agg #[.int .i64 fn, .int .i64 tn, .int .i64 x], .slice (some ⟨g, 0, none⟩) n cap] w fun e w' => e = .returned (.tuple #[]) ∧ w.grownBy w' (some g) ∧ OwnL lo g n cap (movL l fn tn x) w' := by
  have hfl : fn < l.length := by rw [hn.out]; exact h1
  have htl : tn < l.length := by rw [hn.out]; exact h2
  have hb1 := ht fn hfl
  have hb2 := ht tn htl
  have HO := Lib.hid (OwnL.alloc ho (.cells #[.int .i64 fn, .int .i64 tn, .int .i64 x] 44))
  have s0 := HO.out.cell fn hfl
  have M1 : Hid (∀ W, OwnL lo g n cap l W → OwnL lo g n cap (l.set fn (l[fn] - x)) (W.setCell ⟨g, fn, none⟩ (.int .i64 (l[fn] - x)))) := fun W h => mov_first h fn _
  have M2 : Hid (∀ W, OwnL lo g n cap (l.set fn (l[fn] - x)) W → W.cell? ⟨g, tn, none⟩ = some (.int .i64 l[tn]) ∧ OwnL lo g n cap (movL l fn tn x) (W.setCell ⟨g, tn, none⟩ (.int .i64 (l[tn] + x)))) := fun W h => mov_second hfl htl hne h
  have hk0 : (0 : Int) ≤ (fn : Int) := by omega
  have hk1 : (fn : Int) < (n : Int) := by omega
  have hj0 : (0 : Int) ≤ (tn : Int) := by omega
  have hj1 : (tn : Int) < (n : Int) := by omega
  have hpg : w.heap.size ≠ g := by omega
  clear ho ht
  generalize l[fn] = fv at s0 hb1 M1 M2
  generalize l[tn] = tv at hb2 M2
  go_enter Try.func56, Try.ntmps56
  go_wp2_with fail
  have q0 : (w.alloc (.cells #[.int .i64 fn, .int .i64 tn, .int .i64 x] 44)).cell? ⟨w.heap.size, 0, none⟩ = some (.int .i64 fn) := by simp [go_sem]
  have q1 : (w.alloc (.cells #[.int .i64 fn, .int .i64 tn, .int .i64 x] 44)).cell? ⟨w.heap.size, 1, none⟩ = some (.int .i64 tn) := by simp [go_sem]
  have q2 : (w.alloc (.cells #[.int .i64 fn, .int .i64 tn, .int .i64 x] 44)).cell? ⟨w.heap.size, 2, none⟩ = some (.int .i64 x) := by simp [go_sem]
  have HG2 : Hid (w.grownBy (w.alloc (.cells #[.int .i64 fn, .int .i64 tn, .int .i64 x] 44)) (some g)) := grown_below (by repeat (first | exact Below.refl _ _ | refine Below.alloc ?_ (by simp; try omega) _ | refine Below.setCell ?_ (by simp; try omega) _)) _
  have z0 := ownsRow_frozen HO.out fn
  generalize w.alloc (.cells #[.int .i64 fn, .int .i64 tn, .int .i64 x] 44) = w2 at q0 q1 q2 s0 z0 HO HG2
  go_still_tail 9, (by kernel_rfl)
  change wpList _ _ _ _ _ w2.drew
  have HG3 : Hid (w.grownBy w2.drew (some g)) := ⟨HG2.out.os, HG2.out.tape, HG2.out.output, HG2.out.size, HG2.out.block⟩
  have HO3 := Lib.hid (M1.out _ HO.out.drew)
  have r0 := cell_other (g := g) (i := fn) (u := .int .i64 (fv - x)) hpg (show w2.drew.cell? ⟨w.heap.size, 0, none⟩ = some (.int .i64 fn) from q0)
  have r1 := cell_other (g := g) (i := fn) (u := .int .i64 (fv - x)) hpg (show w2.drew.cell? ⟨w.heap.size, 1, none⟩ = some (.int .i64 tn) from q1)
  have r2 := cell_other (g := g) (i := fn) (u := .int .i64 (fv - x)) hpg (show w2.drew.cell? ⟨w.heap.size, 2, none⟩ = some (.int .i64 x) from q2)
  have z1 : w2.drew.frozen? ⟨g, fn, none⟩ = false := z0
  have u0 : w2.drew.cell? ⟨g, fn, none⟩ = some (.int .i64 fv) := s0
  have HR1 := Lib.hid (And.intro r0 (And.intro r1 r2))
  clear q0 q1 q2 s0 z0 HO HG2 r0 r1 r2
  generalize w2.drew = w3 at z1 u0 HG3 HO3 HR1
  go_wp2_with fail
  have HG4 := Lib.hid (grown_setCell (o := fn) HG3.out (.int .i64 (fv - x)))
  obtain ⟨r0, r1, r2⟩ := HR1.out
  have v0 := (M2.out _ HO3.out).1
  clear z1 u0 HG3 HR1
  generalize w3.setCell ⟨g, fn, none⟩ (.int .i64 (fv - x)) = w4 at HG4 HO3 r0 r1 r2 v0
  go_still_tail 9, (by kernel_rfl)
  change wpList _ _ _ _ _ w4.drew
  have HG5 : Hid (w.grownBy w4.drew (some g)) := ⟨HG4.out.os, HG4.out.tape, HG4.out.output, HG4.out.size, HG4.out.block⟩
  have HO5 := Lib.hid (M2.out w4.drew HO3.out).2
  have z2 : w4.drew.frozen? ⟨g, tn, none⟩ = false := ownsRow_frozen HO3.out tn
  have v1 : w4.drew.cell? ⟨g, tn, none⟩ = some (.int .i64 tv) := v0
  clear r0 r1 r2 v0 HO3 HG4
  generalize w4.drew = w5 at HG5 HO5 z2 v1
  go_wp2
  exact bodyPost_end (v := .tuple #[]) (results_none (by rfl) _ _ _) rfl ⟨rfl, grown_setCell HG5.out _, HO5.out⟩
end Go.Proofs.Ytabopjdcpllocaa
