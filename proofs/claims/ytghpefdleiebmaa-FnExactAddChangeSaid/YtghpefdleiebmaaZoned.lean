/-
  Zones (laws.Zoned, impl.Zoned: a number, a list of numbers and a list of records): how an argument of this type reads, what a call owns of one, the walks of the laws' own helpers on them.
-/
import Derived.Test.YtghpefdleiebmaaChangeRec
import Derived.Test.YtghpefdleiebmaaChangeMarks
import Derived.Test.YtghpefdleiebmaaIntList
import Derived.Test.YtghpefdleiebmaaMarksI
import Derived.Test.YtghpefdleiebmaaNums
import Derived.Test.YtghpefdleiebmaaNest
import Derived.Test.YtghpefdleiebmaaInt64SNest
namespace Go.Proofs.Ytghpefdleiebmaa
open Go.RowKit Go.ChangeShapes Go.WideShapes Go.Deep Go.Joins

abbrev TZoned := Int × List Int × List TChange
def wfZoned (t : TZoned) : Prop := (Lit.int .i64 t.1).wf = true ∧ (∀ k ∈ t.2.1, (Lit.int .i64 k).wf = true) ∧ ∀ x ∈ t.2.2, wfChange x
/-- A value is one of the laws' own. -/
def ZonedIn (w : World) (v : Value) (t : TZoned) : Prop :=
  ∃ a n c b m d, v = .agg #[.int .i64 t.1, .slice a n c, .slice b m d] ∧ Hid (t.2.1.length = n) ∧ n ≤ maxLen ∧ RI w a t.2.1 ∧ Hid (t.2.2.length = m) ∧ m ≤ maxLen ∧ RR 3 cChange w b t.2.2 ∧ wfZoned t
theorem cellsZoned : Try.prog.cellsOf 47 = 3 := by kernel_rfl
theorem ints_ofZ {H : Type} {enc : TypeId × Value → H} {w : World} {spare : Nat → Bool} {held : Bool} {base fuel : Nat} {v : Value} {y : DataW H × List MemPlace}
    (h : DataW.trod enc Try.prog w base spare held fuel 24 [v] = some y) : ∃ (ns : List Int) (ai : Option Addr) (ci : Nat), v = .slice ai ns.length ci ∧ RI w ai ns ∧ ns.length ≤ maxLen ∧ ∀ k ∈ ns, (Lit.int .i64 k).wf = true := by
  rcases open_ints Try.underlying24 Try.underlying2 (by kernel_rfl) h with ⟨hcs, _⟩ | ⟨x, l, c, zs, hcs, _, hl, hm, hz, _, hcell, hwz⟩
  · obtain rfl : v = .slice none 0 0 := by simpa using hcs
    exact ⟨[], none, 0, rfl, .inl rfl, by simp, fun k hk => by simp at hk⟩
  · obtain rfl : v = .slice (some x) l c := by simpa using hcs
    have hz' : l ≤ zs.length := by rw [hz]; split <;> omega
    have hlen : (zs.take l).length = l := by rw [List.length_take]; omega
    refine ⟨zs.take l, some x, c, by rw [hlen], ?_, by omega, fun k hk => hwz k (List.mem_of_mem_take hk)⟩
    by_cases hz0 : l = 0
    · exact .inl (List.eq_nil_of_length_eq_zero (by omega))
    · obtain ⟨b, off, spot⟩ := x
      have c0 := hcell 0 (by omega)
      have hspot : spot = none := by simpa [Addr.add] using World.cell?_spot c0
      subst hspot
      refine .inr ⟨b, off, rfl, fun i hi => ?_⟩
      have hi' : i < zs.length := by simp at hi; omega
      have ci := hcell i hi'
      rw [Addr.add_lit] at ci
      rw [ci, List.getElem_take, List.getD_eq_getElem?_getD, List.getElem?_eq_getElem hi']
      rfl
theorem changes_ofZ {H : Type} {enc : TypeId × Value → H} {w : World} {spare : Nat → Bool} {held : Bool} {base fuel : Nat} {v : Value} {y : DataW H × List MemPlace}
    (h : DataW.trod enc Try.prog w base spare held fuel 45 [v] = some y) : ∃ (ts : List TChange) (ai : Option Addr) (ci : Nat), v = .slice ai ts.length ci ∧ RR 3 cChange w ai ts ∧ ts.length ≤ maxLen ∧ ∀ t ∈ ts, wfChange t := by
  rcases open_slice_fields Try.underlying45 Try.underlying49 (by kernel_rfl) cellsChange h with ⟨hcs, _⟩ | ⟨a, len, cap, m', D, Pl, hcs, _, hl, hm, hmm, _, hi⟩
  · obtain rfl : v = .slice none 0 0 := by simpa using hcs
    exact ⟨[], none, 0, rfl, .inl rfl, by simp, fun k hk => by simp at hk⟩
  · obtain rfl : v = .slice (some a) len cap := by simpa using hcs
    have hmlen : len ≤ m' := by rw [hmm]; split <;> omega
    have hrow : ∀ i, i < len → ∃ t : TChange, wfChange t ∧ ∀ (j : Nat) (v : Value), (cChange t)[j]? = some v → w.cell? (a.add (i * 3 + j)) = some v := by
      intro i hlt
      obtain ⟨ys, n', _, _, _, hf⟩ := hi i (by omega)
      obtain ⟨v0, z0, g0, _, t0⟩ := hf 0 _ rfl
      obtain ⟨v1, z1, g1, _, t1⟩ := hf 1 _ rfl
      obtain ⟨v2, z2, g2, _, t2⟩ := hf 2 _ rfl
      obtain ⟨k0, q0, _, f0⟩ := DataW.trod_int Try.underlying2 t0
      obtain ⟨k1, q1, _, f1⟩ := DataW.trod_int Try.underlying2 t1
      obtain ⟨k2, q2, _, f2⟩ := DataW.trod_int Try.underlying2 t2
      obtain rfl : v0 = .int .i64 k0 := by simpa using q0
      obtain rfl : v1 = .int .i64 k1 := by simpa using q1
      obtain rfl : v2 = .int .i64 k2 := by simpa using q2
      refine ⟨(k0, k1, k2), ⟨f0, f1, f2⟩, fun j v hj => ?_⟩
      match j, hj with
      | 0, hj => obtain rfl : _ = v := Option.some.inj hj; exact g0
      | 1, hj => obtain rfl : _ = v := Option.some.inj hj; exact g1
      | 2, hj => obtain rfl : _ = v := Option.some.inj hj; exact g2
      | j + 3, hj => simp [cChange] at hj
    obtain ⟨ts, hts, hq⟩ := pick_list len _ hrow
    refine ⟨ts, some a, cap, by rw [hts], ?_, by omega, fun t ht => ?_⟩
    · by_cases hz : ts.length = 0
      · exact .inl (List.eq_nil_of_length_eq_zero hz)
      · obtain ⟨b, off, spot⟩ := a
        have c0 := (hq 0 (by omega)).2 0 _ rfl
        have hspot : spot = none := by simpa [Addr.add] using World.cell?_spot c0
        subst hspot
        have hlt := World.block_lt_of_cell? w _ c0
        rw [Addr.add_lit] at hlt
        refine .inr ⟨b, off, rfl, hlt, fun i hi j v hj => ?_⟩
        have c1 := (hq i hi).2 j v hj
        rw [Addr.add_lit] at c1
        rw [Nat.add_assoc]; exact c1
    · obtain ⟨i, hi, rfl⟩ := List.getElem_of_mem ht
      exact (hq i hi).1
set_option maxRecDepth 100000 in
theorem open_Zoned {H : Type} {enc : TypeId × Value → H} {w : World} {spare : Nat → Bool} {held : Bool} {r : Reach} {b0 : Nat} {v : Value} {d : DataW H} {p : List MemPlace}
    (hv : Value.okWide Try.prog w r b0 47 v) (h : DataW.Trod enc Try.prog w 0 spare held 47 v d p) : ∃ x, ZonedIn w v x := by
  obtain ⟨c0, c1, c2, y0, y1, y2, m, rfl, rfl, rfl, hy0, hy1, hy2⟩ := Go.Joins.open_agg3 Try.underlying47 (by kernel_rfl) cellsZoned hv h
  obtain ⟨k0, e0, _, f0⟩ := DataW.trod_int Try.underlying2 hy0
  obtain rfl : c0 = .int .i64 k0 := by simpa using e0
  obtain ⟨ns, ai, ci, hv1, hr1, hm1, hw1⟩ := ints_ofZ hy1
  subst hv1
  obtain ⟨ts, bi, di, hv2, hr2, hm2, hw2⟩ := changes_ofZ hy2
  subst hv2
  exact ⟨(k0, ns, ts), ai, ns.length, ci, bi, ts.length, di, rfl, rfl, hm1, hr1, rfl, hm2, hr2, f0, hw1, hw2⟩

/-- What a call owns of one: both lists between two block numbers, in different blocks. -/
def OwZ (lo hi : Nat) (va vb : Value) (t : TZoned) (w : World) : Prop :=
  Row lo hi 2 1 va t.2.1.length (t.2.1.map (Value.int .i64)) w ∧ Row lo hi 53 3 vb t.2.2.length (t.2.2.flatMap cChange) w ∧ ∀ p, va.ownBlock = some p → vb.ownBlock ≠ some p
section
variable {lo hi : Nat} {va vb : Value} {t : TZoned} {w w' : World}
theorem OwZ.below (h : OwZ lo hi va vb t w) (hb : Below w.heap.size w w') : OwZ lo hi va vb t w' := ⟨h.1.below hb, h.2.1.below hb, h.2.2⟩
theorem OwZ.turned {x y : Nat} (h : OwZ lo hi va vb t w) (ht : Turned x y w w') (hd : hi ≤ x ∨ y ≤ lo) : OwZ lo hi va vb t w' := ⟨h.1.turned ht hd, h.2.1.turned ht hd, h.2.2⟩
theorem OwZ.rdI {a : Option Addr} {n c : Nat} (h : OwZ lo hi (.slice a n c) vb t w) (hn : Hid (t.2.1.length = n)) : RI w a t.2.1 := by
  have h1 := h.1.1
  have := hn.out
  subst this
  exact rowI_RI (Lib.hid rfl) h1
theorem OwZ.rdC {a : Option Addr} {n c : Nat} (h : OwZ lo hi va (.slice a n c) t w) (hn : Hid (t.2.2.length = n)) : RR 3 cChange w a t.2.2 := by
  have h1 := h.2.1.1
  have := hn.out
  subst this
  exact own_RR cChange_len (Lib.hid rfl) h1
end
def GivesZ (t : TZoned) (n m : Nat) (w : World) (e : Ending) (w' : World) : Prop :=
  ∃ g1 g2, e = .returned (.agg #[.int .i64 t.1, .slice (some ⟨g1, 0, none⟩) n n, .slice (some ⟨g2, 0, none⟩) m m]) ∧ Below w.heap.size w w' ∧ OwZ w.heap.size w'.heap.size (.slice (some ⟨g1, 0, none⟩) n n) (.slice (some ⟨g2, 0, none⟩) m m) t w'

def szZ (left : Int) (n m : Nat) : Int := leftOf (leftOf left n) m
theorem szZ_bounds (left : Int) (n m : Nat) (h : 0 ≤ left) : -1 ≤ szZ left n m ∧ szZ left n m ≤ left ∧ (0 ≤ szZ left n m → (n : Int) ≤ left ∧ (m : Int) ≤ left) := by
  unfold szZ leftOf
  split <;> split <;> omega
set_option maxHeartbeats 1000000 in
theorem szZoned_any (a b : Option Addr) (z : Int) (n c m d : Nat) (left : Int) (w : World) (h0 : 0 ≤ left) (h1 : left ≤ 1048576) (hn : n ≤ maxLen) (hm : m ≤ maxLen) :
    Calls Try.prog 24 #[.agg #[.int .i64 z, .slice a n c, .slice b m d], .int .i64 left] w fun e w' => e = .returned (.int .i64 (szZ left n m)) ∧ Below w.heap.size w w' := by
  by_cases h : left < n
  · have HR : Hid (szZ left n m = -1) := by unfold Hid szZ leftOf; rw [if_pos h, if_pos (by omega)]
    have hL : leftOf left n = -1 := leftOf_less h
    clear h
    go_enter Try.func24, Try.ntmps24
    go_wp2_with fail
    refine (szInt64S_any _ _ _ _ _ h0 h1 hn).mono ?_
    rintro e w1 ⟨rfl, hb1⟩
    rw [hL]
    obtain ⟨hc, hf⟩ := bcell hb1
    have hsz := hb1.size
    simp at hsz
    have hlt0 : w.heap.size < w1.heap.size := by omega
    go_wp2
    go_ret
    exact ⟨ret_int HR.out.symm, Below.trans (by repeat (first | exact Below.refl _ _ | refine Below.alloc ?_ (by simp; try omega) _ | refine Below.setCell ?_ (by simp; try omega) _)) (hb1.mono (by simp))⟩
  · have hL : leftOf left n = left - n := leftOf_enough h
    have hge : 0 ≤ left - n := by omega
    have hle : left - n ≤ 1048576 := by omega
    by_cases h' : left - n < m
    · have HR : Hid (szZ left n m = -1) := by unfold Hid szZ; rw [hL]; exact leftOf_less h'
      have hL2 : leftOf (left - n) m = -1 := leftOf_less h'
      clear h h'
      go_enter Try.func24, Try.ntmps24
      go_wp2_with fail
      refine (szInt64S_any _ _ _ _ _ h0 h1 hn).mono ?_
      rintro e w1 ⟨rfl, hb1⟩
      rw [hL]
      obtain ⟨hc, hf⟩ := bcell hb1
      have hsz := hb1.size
      simp at hsz
      have hlt0 : w.heap.size < w1.heap.size := by omega
      go_wp2_with fail
      refine (szChangeS_any _ _ _ _ _ hge hle hm).mono ?_
      rintro e w2 ⟨rfl, rfl⟩
      rw [hL2]
      go_wp2
      go_ret
      exact ⟨ret_int HR.out.symm, Below.trans (by repeat (first | exact Below.refl _ _ | refine Below.alloc ?_ (by simp; try omega) _ | refine Below.setCell ?_ (by simp; try omega) _)) (hb1.mono (by simp))⟩
    · have HR : Hid (szZ left n m = left - n - m) := by unfold Hid szZ; rw [hL]; exact leftOf_enough h'
      have hL2 : leftOf (left - n) m = left - n - m := leftOf_enough h'
      have hge2 : ¬ left - n - m < 0 := by omega
      clear h h'
      go_enter Try.func24, Try.ntmps24
      go_wp2_with fail
      refine (szInt64S_any _ _ _ _ _ h0 h1 hn).mono ?_
      rintro e w1 ⟨rfl, hb1⟩
      rw [hL]
      obtain ⟨hc, hf⟩ := bcell hb1
      have hsz := hb1.size
      simp at hsz
      have hlt0 : w.heap.size < w1.heap.size := by omega
      go_wp2_with fail
      refine (szChangeS_any _ _ _ _ _ hge hle hm).mono ?_
      rintro e w2 ⟨rfl, rfl⟩
      rw [hL2]
      go_wp2
      go_ret
      exact ⟨ret_int HR.out.symm, Below.trans (by repeat (first | exact Below.refl _ _ | refine Below.alloc ?_ (by simp; try omega) _ | refine Below.setCell ?_ (by simp; try omega) _)) (hb1.mono (by simp))⟩
theorem row_setCell {lo hi : Nat} {e : TypeId} {size n : Nat} {v : Value} {xs : List Value} {w : World} (h : Row lo hi e size v n xs w) {b o : Nat} (hb : b < lo) (u : Value) : Row lo hi e size v n xs (w.setCell ⟨b, o, none⟩ u) :=
  ⟨ownsRow_setCell_other h.1 (by intro hk; have := h.2 _ hk; dsimp only at this; omega) u, h.2⟩
set_option maxHeartbeats 2000000 in
theorem toZoned_any (a b : Option Addr) (t : TZoned) (n c m d : Nat) (w : World) (hn : Hid (t.2.1.length = n)) (ha : RI w a t.2.1) (hmax : n ≤ 1048576) (hm : Hid (t.2.2.length = m)) (hb : RR 3 cChange w b t.2.2) (hmax2 : m ≤ 1048576) :
    Calls Try.prog 26 #[.agg #[.int .i64 t.1, .slice a n c, .slice b m d]] w (GivesZ t n m w) := by
  have HA : Hid (∀ w', Below w.heap.size w w' → RI w' a t.2.1) := fun w' h => ha.below h
  have HB : Hid (∀ w', Below w.heap.size w w' → RR 3 cChange w' b t.2.2) := fun w' h => hb.below h
  clear ha hb
  go_enter Try.func26, Try.ntmps26
  go_wp2_with fail
  refine (toInt64S_any _ t.2.1 _ _ _ hn (HA.out _ (by repeat (first | exact Below.refl _ _ | refine Below.alloc ?_ (by simp; try omega) _ | refine Below.setCell ?_ (by simp; try omega) _))) hmax).mono ?_
  rintro e w1 ⟨g1, rfl, hg, hb1, hown⟩
  obtain ⟨hc, hf⟩ := bcell hb1
  have HO := Lib.hid (Row.of hown)
  have hsz := hb1.size
  simp at hsz hg
  clear hown
  have HB1 : Hid (Below w.heap.size w w1) := Below.trans (by repeat (first | exact Below.refl _ _ | refine Below.alloc ?_ (by simp; try omega) _ | refine Below.setCell ?_ (by simp; try omega) _)) (hb1.mono (by simp; try omega))
  have hlt0 : w.heap.size < w1.heap.size := by omega
  have hlt1 : w.heap.size + 1 < w1.heap.size := by omega
  have hlt2 : w.heap.size + 1 + 1 < w1.heap.size := by omega
  go_wp2_with fail
  refine (toChangeS_any _ t.2.2 _ _ _ hm (HB.out _ (by repeat (first | exact HB1.out | refine Below.alloc ?_ (by first | omega | (simp; done) | (simp; omega)) _ | refine Below.setCell ?_ (by first | omega | (simp; done) | (simp; omega)) _))) hmax2).mono ?_
  rintro e w2 ⟨g2, rfl, hg2, hb2, hown2⟩
  obtain ⟨hc2, hf2⟩ := bcell hb2
  have HO2 := Lib.hid (Row.of hown2)
  have hsz2 := hb2.size
  simp at hsz2 hg2
  clear hown2
  have HB2 : Hid (Below w.heap.size w w2) := Below.trans (by repeat (first | exact HB1.out | refine Below.alloc ?_ (by first | omega | (simp; done) | (simp; omega)) _ | refine Below.setCell ?_ (by first | omega | (simp; done) | (simp; omega)) _)) (hb2.mono (by simp; try omega))
  have hlt20 : w.heap.size < w2.heap.size := by omega
  have hlt21 : w.heap.size + 1 < w2.heap.size := by omega
  have hlt22 : w.heap.size + 1 + 1 < w2.heap.size := by omega
  have HP := Lib.hid ((row_setCell (b := w.heap.size + 1 + 1) (o := 1) HO.out (by simp) (.slice (some ⟨g1, 0, none⟩) n n)).below hb2)
  clear HO
  have o0 := hc2 (w.heap.size + 1) 0 (by simp; omega)
  have o1 := hc2 (w.heap.size + 1) 1 (by simp; omega)
  have o2 := hc2 (w.heap.size + 1) 2 (by simp; omega)
  have p0 := hc (w.heap.size + 1) 0 (by simp)
  have p1 := hc (w.heap.size + 1) 1 (by simp)
  have p2 := hc (w.heap.size + 1) 2 (by simp)
  simp [go_sem] at p0 p1 p2
  simp [go_sem, p0] at o0
  simp [go_sem, p1] at o1
  simp [go_sem, p2] at o2
  go_wp2
  refine bodyPost_ret (v := .agg #[.int .i64 t.1, .slice (some ⟨g1, 0, none⟩) n n, .slice (some ⟨g2, 0, none⟩) m m]) (by simp [results, Try.results26, go_sem, o0, o1, o2]) rfl ⟨g1, g2, rfl, (by repeat (first | exact HB2.out | refine Below.alloc ?_ (by first | omega | (simp; done) | (simp; omega)) _ | refine Below.setCell ?_ (by first | omega | (simp; done) | (simp; omega)) _)), ?_, ?_, ?_⟩
  · have HQ := Lib.hid (row_setCell (b := w.heap.size + 1) (o := 2) (row_setCell (b := w.heap.size + 1) (o := 1) (row_setCell (b := w.heap.size + 1) (o := 0) (row_setCell (b := w.heap.size + 1 + 1) (o := 2) HP.out (by simp) (.slice (some ⟨g2, 0, none⟩) m m)) (by simp) (.int .i64 t.1)) (by simp) (.slice (some ⟨g1, 0, none⟩) n n)) (by simp) (.slice (some ⟨g2, 0, none⟩) m m))
    rw [hn.out]
    exact HQ.out.widen (by simp; omega) (by simp; omega)
  · have HQ := Lib.hid (row_setCell (b := w.heap.size + 1) (o := 2) (row_setCell (b := w.heap.size + 1) (o := 1) (row_setCell (b := w.heap.size + 1) (o := 0) (row_setCell (b := w.heap.size + 1 + 1) (o := 2) HO2.out (by simp; omega) (.slice (some ⟨g2, 0, none⟩) m m)) (by simp; omega) (.int .i64 t.1)) (by simp; omega) (.slice (some ⟨g1, 0, none⟩) n n)) (by simp; omega) (.slice (some ⟨g2, 0, none⟩) m m))
    rw [hm.out]
    exact HQ.out.widen (by simp; omega) (by simp)
  · intro p hp hq
    have h1 := HP.out.2 p hp
    have h2 := HO2.out.2 p hq
    simp at h2
    omega
set_option maxHeartbeats 2000000 in
theorem eqZoned_any (a b a' b' : Option Addr) (t u : TZoned) (n c m d n' c' m' d' : Nat) (w : World) (hn : Hid (t.2.1.length = n)) (hn' : Hid (u.2.1.length = n')) (hm : Hid (t.2.2.length = m)) (hm' : Hid (u.2.2.length = m'))
    (ha : RI w a t.2.1) (ha' : RI w a' u.2.1) (hb : RR 3 cChange w b t.2.2) (hb' : RR 3 cChange w b' u.2.2) (hmax : n ≤ maxLen) (hmax2 : m ≤ maxLen) :
    Calls Try.prog 29 #[.agg #[.int .i64 t.1, .slice a n c, .slice b m d], .agg #[.int .i64 u.1, .slice a' n' c', .slice b' m' d']] w fun e w' => e = .returned (.bool (t == u)) ∧ Below w.heap.size w w' := by
  obtain ⟨z1, l1, r1⟩ := t
  obtain ⟨z2, l2, r2⟩ := u
  have CE : Hid (∀ W, Below w.heap.size w W → Calls Try.prog 76 #[.slice a n c, .slice a' n' c'] W fun e w' => e = .returned (.bool (l1 == l2)) ∧ Below W.heap.size W w') := fun W h => eqInt64S_any a a' l1 l2 n n' c c' W hn hn' (ha.below h) (ha'.below h) hmax
  have CF : Hid (∀ W, Below w.heap.size w W → Calls Try.prog 77 #[.slice b m d, .slice b' m' d'] W fun e w' => e = .returned (.bool (r1 == r2)) ∧ Below W.heap.size W w') := fun W h => eqChangeS_any b b' r1 r2 m m' d d' W hm hm' (hb.below h) (hb'.below h) hmax2
  clear hn hn' hm hm' ha ha' hb hb' hmax hmax2
  rcases eq_ways z1 z2 with ⟨⟨a1, b1⟩, e1⟩ | ⟨⟨a1, b1⟩, e1⟩
  · clear e1
    cases hl : (l1 == l2) with
    | false =>
      have EQ := Lib.hid hl
      have HR : Hid ((((z1, l1, r1) : TZoned) == (z2, l2, r2)) = false) := by unfold Hid; show ((z1 == z2) && ((l1 == l2) && (r1 == r2))) = false; rw [hl, a1]; rfl
      clear hl
      go_enter Try.func29, Try.ntmps29
      go_wp2_with fail
      refine (CE.out _ (by repeat (first | exact Below.refl _ _ | refine Below.alloc ?_ (by simp; try omega) _ | refine Below.setCell ?_ (by simp; try omega) _))).mono ?_
      rintro e w1 ⟨rfl, hb1⟩
      have HB1 : Hid (Below w.heap.size w w1) := Below.trans (by repeat (first | exact Below.refl _ _ | refine Below.alloc ?_ (by simp; try omega) _ | refine Below.setCell ?_ (by simp; try omega) _)) (hb1.mono (by simp; try omega))
      rw [EQ.out]
      go_wp2
      go_ret
      exact ⟨ret_bool HR.out.symm, HB1.out⟩
    | true =>
      have EQ := Lib.hid hl
      have HR : Hid ((((z1, l1, r1) : TZoned) == (z2, l2, r2)) = (r1 == r2)) := by unfold Hid; show ((z1 == z2) && ((l1 == l2) && (r1 == r2))) = (r1 == r2); rw [hl, a1]; rfl
      clear hl
      cases hr : (r1 == r2) with
      | false =>
        have EQ2 := Lib.hid hr
        clear hr
        go_enter Try.func29, Try.ntmps29
        go_wp2_with fail
        refine (CE.out _ (by repeat (first | exact Below.refl _ _ | refine Below.alloc ?_ (by simp; try omega) _ | refine Below.setCell ?_ (by simp; try omega) _))).mono ?_
        rintro e w1 ⟨rfl, hb1⟩
        obtain ⟨hc, hf⟩ := bcell hb1
        have hsz := hb1.size
        simp at hsz
        have HB1 : Hid (Below w.heap.size w w1) := Below.trans (by repeat (first | exact Below.refl _ _ | refine Below.alloc ?_ (by simp; try omega) _ | refine Below.setCell ?_ (by simp; try omega) _)) (hb1.mono (by simp; try omega))
        have hlt0 : w.heap.size < w1.heap.size := by omega
        have hlt1 : w.heap.size + 1 < w1.heap.size := by omega
        rw [EQ.out]
        go_wp2_with fail
        refine (CF.out _ (by repeat (first | exact HB1.out | refine Below.alloc ?_ (by first | omega | (simp; done) | (simp; omega)) _ | refine Below.setCell ?_ (by first | omega | (simp; done) | (simp; omega)) _))).mono ?_
        rintro e w2 ⟨rfl, hb2⟩
        have HB2 : Hid (Below w.heap.size w w2) := Below.trans HB1.out (hb2.mono HB1.out.size)
        rw [EQ2.out]
        go_wp2
        go_ret
        exact ⟨ret_bool (by rw [HR.out, EQ2.out]), HB2.out⟩
      | true =>
        have EQ2 := Lib.hid hr
        clear hr
        go_enter Try.func29, Try.ntmps29
        go_wp2_with fail
        refine (CE.out _ (by repeat (first | exact Below.refl _ _ | refine Below.alloc ?_ (by simp; try omega) _ | refine Below.setCell ?_ (by simp; try omega) _))).mono ?_
        rintro e w1 ⟨rfl, hb1⟩
        obtain ⟨hc, hf⟩ := bcell hb1
        have hsz := hb1.size
        simp at hsz
        have HB1 : Hid (Below w.heap.size w w1) := Below.trans (by repeat (first | exact Below.refl _ _ | refine Below.alloc ?_ (by simp; try omega) _ | refine Below.setCell ?_ (by simp; try omega) _)) (hb1.mono (by simp; try omega))
        have hlt0 : w.heap.size < w1.heap.size := by omega
        have hlt1 : w.heap.size + 1 < w1.heap.size := by omega
        rw [EQ.out]
        go_wp2_with fail
        refine (CF.out _ (by repeat (first | exact HB1.out | refine Below.alloc ?_ (by first | omega | (simp; done) | (simp; omega)) _ | refine Below.setCell ?_ (by first | omega | (simp; done) | (simp; omega)) _))).mono ?_
        rintro e w2 ⟨rfl, hb2⟩
        have HB2 : Hid (Below w.heap.size w w2) := Below.trans HB1.out (hb2.mono HB1.out.size)
        rw [EQ2.out]
        go_wp2
        go_ret
        exact ⟨ret_bool (by rw [HR.out, EQ2.out]), HB2.out⟩
  · have HR : Hid ((((z1, l1, r1) : TZoned) == (z2, l2, r2)) = false) := by unfold Hid; show ((z1 == z2) && ((l1 == l2) && (r1 == r2))) = false; rw [a1]; rfl
    clear e1
    go_enter Try.func29, Try.ntmps29
    go_wp2
    go_ret
    exact ⟨ret_bool HR.out.symm, (by repeat (first | exact Below.refl _ _ | refine Below.alloc ?_ (by simp; try omega) _ | refine Below.setCell ?_ (by simp; try omega) _))⟩
set_option maxHeartbeats 2000000 in
theorem markZoned_any (a b : Option Addr) (t : TZoned) (n c m d : Nat) (k : Int) (lo hi : Nat) (w : World) (hn : Hid (t.2.1.length = n)) (hm : Hid (t.2.2.length = m)) (ho : OwZ lo hi (.slice a n c) (.slice b m d) t w) (hmax : n ≤ 1048577) (hmax2 : m ≤ 1048577) (h0 : 0 ≤ k) (h1 : k ≤ 1000000000000000) :
    Calls Try.prog 30 #[.agg #[.int .i64 t.1, .slice a n c, .slice b m d], .int .i64 k] w fun e w' => e = .returned (.int .i64 (k + (n : Int) + 3 * (m : Int))) ∧ Turned lo hi w w' ∧ OwZ lo hi (.slice a n c) (.slice b m d) (t.1, marksI k n, marksChange (k + (n : Int)) m) w' := by
  obtain ⟨hoa, hob, hne⟩ := ho
  rw [hn.out] at hoa
  rw [hm.out] at hob
  have HOA := Lib.hid (hoa.below ((Below.refl _ _).alloc (Nat.le_refl _) (.cells #[.int .i64 t.1, .slice a n c, .slice b m d] 27)))
  have HOB := Lib.hid (hob.below ((Below.refl _ _).alloc (Nat.le_refl _) (.cells #[.int .i64 t.1, .slice a n c, .slice b m d] 27)))
  have HAB := Lib.hid hoa.2
  have HBB := Lib.hid hob.2
  have HLA : Hid (∀ p, (Value.slice a n c).ownBlock = some p → p < w.heap.size) := fun p hp => (hoa.1.lt p hp).2
  have HLB : Hid (∀ p, (Value.slice b m d).ownBlock = some p → p < w.heap.size) := fun p hp => (hob.1.lt p hp).2
  have HNE := Lib.hid hne
  clear hoa hob hne
  go_enter Try.func30, Try.ntmps30
  go_wp2_with fail
  refine (markInt64S_any a _ lo n c k _ HOA.out.1 hmax h0 (by omega)).mono ?_
  rintro e w1 ⟨rfl, hg, ho⟩
  have hnb : (Value.slice a n c).ownBlock ≠ some w.heap.size := fun e => by have := HLA.out _ e; omega
  have hx : w1.cell? ⟨w.heap.size, 2, none⟩ = some (.slice b m d) := (hg.cell (a := ⟨w.heap.size, 2, none⟩) (by simp [go_sem]) (fun e => hnb e.symm))
  have HOB1 : Hid (Row lo hi 53 3 (.slice b m d) m (t.2.2.flatMap cChange) w1) := ⟨HOB.out.1.kept hg (by
    cases hq : (Value.slice b m d).ownBlock with
    | none => exact .inl rfl
    | some p => exact .inr (fun e => HNE.out p e.symm hq)), HBB.out⟩
  have HG1 : Hid (w.grownBy w1 (Value.slice a n c).ownBlock) := ⟨hg.os, hg.tape, hg.output, Nat.le_trans (by simp) hg.size, fun i hi hne => (hg.block i (by simp; omega) hne).trans (Below.heap_alloc w _ i hi)⟩
  have HO1 := Lib.hid ho
  clear hg ho
  go_wp2_with fail
  refine (markChangeS_any b _ lo m d _ _ HOB1.out.1 hmax2 (by omega) (by omega)).mono ?_
  rintro e w2 ⟨rfl, hg2, ho2⟩
  have HG2 := Lib.hid hg2
  have HO2 := Lib.hid ho2
  clear hg2 ho2
  go_wp2
  go_ret
  refine ⟨rfl, (Turned.grown HG1.out HAB.out).trans (Turned.grown HG2.out HBB.out), ⟨?_, HAB.out⟩, ⟨?_, HBB.out⟩, HNE.out⟩
  · dsimp only
    rw [marksI_length]
    exact HO1.out.kept HG2.out (by
      cases hq : (Value.slice a n c).ownBlock with
      | none => exact .inl rfl
      | some p => exact .inr (fun e => HNE.out p hq e.symm))
  · dsimp only
    rw [marksChange_length]
    exact HO2.out
end Go.Proofs.Ytghpefdleiebmaa
