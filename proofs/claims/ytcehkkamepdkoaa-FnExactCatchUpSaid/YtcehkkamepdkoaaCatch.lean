/-
  The walks of minus and CatchUp, the model's and the program's.
-/
import Derived.Test.YtcehkkamepdkoaaCatchMath
import Derived.Deep.DeepCutAuto
namespace Go.Proofs.Ytcehkkamepdkoaa
open Go.RowKit

theorem RR_of_box2 {α : Type} {k : Nat} {c : α → List Value} (hc : ∀ t, (c t).length = k) {w : World} {b : Nat} {t u : α} (h : Box w b (c t ++ c u)) : RR k c w (some ⟨b, 0, none⟩) [t, u] := by
  refine .inr ⟨b, 0, rfl, h.1, fun i hi j v hj => ?_⟩
  have hjk : j < k := by rw [← hc [t, u][i]]; exact (List.getElem?_eq_some_iff.1 hj).1
  have : i = 0 ∨ i = 1 := by simp at hi; omega
  rcases this with rfl | rfl
  · rw [show 0 + 0 * k + j = j by omega]
    exact h.2 j v (by rw [List.getElem?_append_left (by rw [hc]; exact hjk)]; simpa using hj)
  · rw [show 0 + 1 * k + j = k + j by omega]
    exact h.2 _ v (by rw [List.getElem?_append_right (by rw [hc]; omega), hc, show k + j - k = j by omega]; simpa using hj)
theorem blk_lt {w : World} {g : Nat} {o : Obj} (h : w.heap[g]? = some o) : g < w.heap.size := (Array.getElem?_eq_some_iff.1 h).1
theorem keep_blk {X v : World} (hb : Below X.heap.size X v) {g : Nat} {o : Obj} (h : X.heap[g]? = some o) : v.heap[g]? = some o := (hb.block _ (blk_lt h)).trans h
theorem store_pair {w : World} {g : Nat} {x y a b : Value} {e : TypeId} (h : w.heap[g]? = some (.cells #[x, y] e (0, 0))) : ((w.setCell ⟨g, 0, none⟩ a).setCell ⟨g, 1, none⟩ b).heap[g]? = some (.cells #[a, b] e (0, 0)) :=
  heap_setCell_same _ _ _ _ _ _ (heap_setCell_same _ _ _ _ _ _ h)
theorem store_other {w : World} {g k i : Nat} {v : Value} {o : Obj} (h : w.heap[g]? = some o) (hne : g ≠ k) : (w.setCell ⟨k, i, none⟩ v).heap[g]? = some o :=
  (heap_setCell_other w ⟨k, i, none⟩ g v hne).trans h
theorem codeR_two (t u : R4) : codeR [t, u] = okC (rideB t && rideB u) := by unfold codeR okC; simp
theorem code_waysM (b : Bool) (x M : Int) : (b = false ∧ Hid (rangeC (okC b) x M = 1)) ∨ (b = true ∧ Hid (inB x 0 M = false) ∧ Hid (rangeC (okC b) x M = 2)) ∨ (b = true ∧ Hid (inB x 0 M = true) ∧ Hid (rangeC (okC b) x M = 0)) := by
  cases b with
  | false => exact .inl ⟨rfl, rfl⟩
  | true => cases hx : inB x 0 M with
    | false => exact .inr (.inl ⟨rfl, rfl, rangeC_out hx⟩)
    | true => exact .inr (.inr ⟨rfl, rfl, rangeC_in hx⟩)
theorem and_yes {a b : Bool} (h : (a && b) = true) : a = true ∧ b = true := by simpa using h

set_option maxHeartbeats 1000000 in
theorem minus_any (p q r s : Int) (w : World) (h1 : 0 ≤ p * s) (h2 : p * s ≤ 1152921504606846976) (h3 : 0 ≤ r * q) (h4 : r * q ≤ 1152921504606846976) (h5 : r * q ≤ p * s) (h6 : 1 ≤ q * s) (h7 : q * s ≤ 1152921504606846976) : Calls Try.prog 69 #[.agg #[.int .i64 p, .int .i64 q], .agg #[.int .i64 r, .int .i64 s]] w fun e w' => e = .returned (.agg #[.int .i64 (lowI (p * s - r * q) (q * s)).1, .int .i64 (lowI (p * s - r * q) (q * s)).2]) ∧ Below w.heap.size w w' := by
  go_enter Try.func69, Try.ntmps69
  go_wp2_with fail
  refine (lowest_any (p * s - r * q) (q * s) _ (by omega) (by omega) (by omega) (by omega)).mono ?_
  rintro e w1 ⟨rfl, hb1⟩
  have G1 : w1.heap[w.heap.size + 1 + 1]? = some (.cells #[.int .i64 0, .int .i64 0] 29 (0, 0)) := (hb1.block _ (by simp)).trans (heap_alloc_at _ _ _ (by simp))
  have HB : Hid (Below w.heap.size w w1) := (show Below w.heap.size w _ from (by repeat (first | exact Below.refl _ _ | exact HB.out | refine Below.drew ?_ | refine Below.drewN' ?_ _ | refine Below.alloc ?_ (by first | omega | (simp; try omega)) _ | refine Below.setCell ?_ (by first | omega | (simp; try omega)) _))).trans (hb1.mono (by simp; omega))
  obtain ⟨⟨c0, c1⟩, f0, f1, hlt⟩ := blk_cells G1
  clear hb1 G1
  go_wp2
  exact bodyPost_ret (v := .agg #[.int .i64 ((p * s - r * q) / gcdI (p * s - r * q) (q * s)), .int .i64 (q * s / gcdI (p * s - r * q) (q * s))]) (by simp [results, Try.results69, go_sem, c0, c1]) rfl ⟨rfl, (by repeat (first | exact Below.refl _ _ | exact HB.out | refine Below.drew ?_ | refine Below.drewN' ?_ _ | refine Below.alloc ?_ (by first | omega | (simp; try omega)) _ | refine Below.setCell ?_ (by first | omega | (simp; try omega)) _))⟩

set_option maxRecDepth 100000 in
set_option maxHeartbeats 4000000 in
theorem specCatchUp_any (t u : R4) (x : Int) (w : World) : Calls Try.prog 33 #[.agg #[.int .i64 t.1, .int .i64 t.2.1, .int .i64 t.2.2.1, .int .i64 t.2.2.2], .agg #[.int .i64 u.1, .int .i64 u.2.1, .int .i64 u.2.2.1, .int .i64 u.2.2.2], .int .i64 x] w fun e w' => e = .returned (cuV t u x) ∧ Below w.heap.size w w' := by
  have P0 := (Box.alloc w (cRide t) 25).below ((Below.refl _ _).alloc (Nat.le_refl _) (.cells (cRide u).toArray 25))
  have Q0 := Box.alloc' (w.alloc (.cells (cRide t).toArray 25)) (cRide u) 25 (w.heap.size + 1) (by simp)
  obtain ⟨p0, p1, p2, p3⟩ := cRide_box P0
  go_enter Try.func33, Try.ntmps33
  go_wp2_with fail
  refine (l03Ok_any _ 0 t _ p0 p1 p2 p3).mono ?_
  rintro e w1 ⟨rfl, hb1⟩
  have P1 := P0.below hb1
  have Q1 := Q0.below hb1
  have HB : Hid (Below w.heap.size w w1) := (show Below w.heap.size w _ from (by repeat (first | exact Below.refl _ _ | exact HB.out | refine Below.drew ?_ | refine Below.drewN' ?_ _ | refine Below.alloc ?_ (by first | omega | (simp; try omega)) _ | refine Below.setCell ?_ (by first | omega | (simp; try omega)) _))).trans (hb1.mono (by simp; omega))
  clear hb1 P0 Q0 p0 p1 p2 p3
  cases hv : rideB t with
  | false =>
    have HR := Lib.hid (cuA_code (a := t) (b := u) (x := x) (c := 1) (by rw [hv]; rfl) (by omega))
    go_wp2_with fail
    exact bodyPost_ret (v := .tuple #[.int .i64 0, .int .i64 1]) (by simp [results, Try.results33, go_sem]) rfl ⟨by unfold cuV; rw [HR.out], (by repeat (first | exact Below.refl _ _ | exact HB.out | refine Below.drew ?_ | refine Below.drewN' ?_ _ | refine Below.alloc ?_ (by first | omega | (simp; try omega)) _ | refine Below.setCell ?_ (by first | omega | (simp; try omega)) _))⟩
  | true =>
    obtain ⟨q0, q1, q2, q3⟩ := cRide_box Q1
    go_wp2_with fail
    refine (l03Ok_any _ 0 u _ q0 q1 q2 q3).mono ?_
    rintro e w2 ⟨rfl, hb2⟩
    have P2 := P1.below hb2
    have Q2 := Q1.below hb2
    have HB2 : Hid (Below w.heap.size w w2) := HB.out.trans (hb2.mono HB.out.size)
    clear hb2 P1 Q1 q0 q1 q2 q3 HB
    have HB := HB2
    cases hu : rideB u with
    | false =>
      have HR := Lib.hid (cuA_code (a := t) (b := u) (x := x) (c := 1) (by rw [hv, hu]; rfl) (by omega))
      go_wp2_with fail
      exact bodyPost_ret (v := .tuple #[.int .i64 0, .int .i64 1]) (by simp [results, Try.results33, go_sem]) rfl ⟨by unfold cuV; rw [HR.out], (by repeat (first | exact Below.refl _ _ | exact HB.out | refine Below.drew ?_ | refine Below.drewN' ?_ _ | refine Below.alloc ?_ (by first | omega | (simp; try omega)) _ | refine Below.setCell ?_ (by first | omega | (simp; try omega)) _))⟩
    | true =>
      cases hx : inB x 0 10000 with
      | false =>
        have HR := Lib.hid (cuA_code (a := t) (b := u) (x := x) (c := 2) (by rw [hv, hu]; exact rangeC_out hx) (by omega))
        go_wp2_with (go_at_call 66; refine (l00In_any _ _ _ _).mono ?_; rintro e w' ⟨rfl, rfl⟩)
        exact bodyPost_ret (v := .tuple #[.int .i64 0, .int .i64 2]) (by simp [results, Try.results33, go_sem]) rfl ⟨by unfold cuV; rw [HR.out], (by repeat (first | exact Below.refl _ _ | exact HB.out | refine Below.drew ?_ | refine Below.drewN' ?_ _ | refine Below.alloc ?_ (by first | omega | (simp; try omega)) _ | refine Below.setCell ?_ (by first | omega | (simp; try omega)) _))⟩
      | true =>
        obtain ⟨hx0, hx1⟩ := inB_parts hx
        have HC : Hid (rangeC (okC (rideB t && rideB u)) x 10000 = 0) := by unfold Hid; rw [hv, hu]; exact rangeC_in hx
        obtain ⟨x0, x1, x2, x3⟩ := cRide_box P2
        obtain ⟨y0, y1, y2, y3⟩ := cRide_box Q2
        by_cases hl : t.1 = u.1
        · have HL := Lib.hid hl
          have hlb : (t.1 != u.1) = false := by simp [hl]
          have HPQ : Hid (Box w2 w.heap.size (cRide t) ∧ Box w2 (w.heap.size + 1) (cRide u)) := ⟨P2, Q2⟩
          clear P2 Q2 hl
          go_wp2_with (first | (go_at_call 66; refine (l00In_any _ _ _ _).mono ?_; rintro e w' ⟨rfl, rfl⟩) | fail)
          refine (l03Ticks_any _ 0 t _ hv x0 x1 x2 x3).mono ?_
          rintro e w3 ⟨rfl, m3, hw3⟩
          have hbel : Below w2.heap.size w2 w3 := by rw [hw3]; exact Below.drewN' (Below.refl _ _) _
          have HB3 : Hid (Below w.heap.size w w3) := HB.out.trans (hbel.mono HB.out.size)
          have HP3 : Hid (Box w3 w.heap.size (cRide t) ∧ Box w3 (w.heap.size + 1) (cRide u)) := ⟨HPQ.out.1.below hbel, HPQ.out.2.below hbel⟩
          clear hbel hw3 HPQ x0 x1 x2 x3 y0 y1 y2 y3 HB HB2
          obtain ⟨e1, e2⟩ := ticks_bounds hv
          obtain ⟨n1, n2, n3, n4⟩ := ride_bounds hv
          obtain ⟨n5, n6, n7, n8⟩ := ride_bounds hu
          obtain ⟨X, rfl⟩ := Int.eq_ofNat_of_zero_le hx0
          go_wp2
          go_loopw [9] (fun i wr => ∃ (k : Nat), (X : Int) ≤ (k : Int) ∧ (k : Int) ≤ 2010000 ∧ i = .int .i64 (k : Int) ∧ Below w3.heap.size w3 wr ∧ Hid (∀ s : Nat, (X : Int) ≤ (s : Int) → s < k → cuQ t u X s = false)) (fun i _ => 2010001 - (intOf i).toNat)
          case atStart => exact ⟨X, by omega, by omega, rfl, Below.refl _ _, fun s h h2 => absurd h2 (by omega)⟩
          case round =>
            obtain ⟨k, hk0, hk1, rfl, hbel, HI⟩ := hrel
            by_cases hlt : (k : Int) < ticksR t
            · have HE := Lib.hid hbel
              obtain ⟨x0, x1, x2, x3⟩ := cRide_box (HP3.out.1.below hbel)
              obtain ⟨y0, y1, y2, y3⟩ := cRide_box (HP3.out.2.below hbel)
              clear hbel
              obtain ⟨m1, m2⟩ := mul_le_of (a := (k : Int)) (b := numR t) (A := 2010000) (B := 10000) (by omega) (by omega) (by omega) (by omega)
              obtain ⟨m3, m4⟩ := mul_le_of (a := (k : Int) * numR t) (b := denR u) (A := 20100000000) (B := 1000) (by omega) (by omega) (by omega) (by omega)
              obtain ⟨m5, m6⟩ := mul_le_of (a := (k : Int) - X) (b := numR u) (A := 2010000) (B := 10000) (by omega) (by omega) (by omega) (by omega)
              obtain ⟨m7, m8⟩ := mul_le_of (a := ((k : Int) - X) * numR u) (b := denR t) (A := 20100000000) (B := 1000) (by omega) (by omega) (by omega) (by omega)
              have HQ : Hid (cuQ t u X k = decide ((k : Int) * numR t * denR u ≤ ((k : Int) - X) * numR u * denR t)) := rfl
              have HE0 := HE
              clear HE x0 x1 x2 x3 y0 y1 y2 y3
              by_cases hd : (k : Int) * numR t * denR u ≤ ((k : Int) - X) * numR u * denR t
              all_goals
                obtain ⟨x0, x1, x2, x3⟩ := cRide_box (HP3.out.1.below HE0.out)
                go_wp2_with fail
                refine (l03Num_any _ 0 t _ hv x2).mono ?_
                rintro e v1 ⟨rfl, j1, hj1⟩
                have hb1 : Below wr.heap.size wr v1 := by rw [hj1]; exact Below.drewN' (Below.refl _ _) _
                have HE1 : Hid (Below w3.heap.size w3 v1) := HE0.out.trans (hb1.mono HE0.out.size)
                clear hb1 hj1
                clear x0 x1 x2 x3
                obtain ⟨y0, y1, y2, y3⟩ := cRide_box (HP3.out.2.below HE1.out)
                go_wp2_with fail
                refine (l03Den_any _ 0 u _ hu y1 y3).mono ?_
                rintro e v2 ⟨rfl, j2, hj2⟩
                have hb2 : Below v1.heap.size v1 v2 := by rw [hj2]; exact Below.drewN' (Below.refl _ _) _
                have HE2 : Hid (Below w3.heap.size w3 v2) := HE1.out.trans (hb2.mono HE1.out.size)
                clear hb2 hj2
                clear y0 y1 y2 y3
                obtain ⟨y0, y1, y2, y3⟩ := cRide_box (HP3.out.2.below HE2.out)
                go_wp2_with fail
                refine (l03Num_any _ 0 u _ hu y2).mono ?_
                rintro e v3 ⟨rfl, j3, hj3⟩
                have hb3 : Below v2.heap.size v2 v3 := by rw [hj3]; exact Below.drewN' (Below.refl _ _) _
                have HE3 : Hid (Below w3.heap.size w3 v3) := HE2.out.trans (hb3.mono HE2.out.size)
                clear hb3 hj3
                clear y0 y1 y2 y3
                obtain ⟨x0, x1, x2, x3⟩ := cRide_box (HP3.out.1.below HE3.out)
                go_wp2_with fail
                refine (l03Den_any _ 0 t _ hv x1 x3).mono ?_
                rintro e v4 ⟨rfl, j4, hj4⟩
                have hb4 : Below v3.heap.size v3 v4 := by rw [hj4]; exact Below.drewN' (Below.refl _ _) _
                have HE4 : Hid (Below w3.heap.size w3 v4) := HE3.out.trans (hb4.mono HE3.out.size)
                clear hb4 hj4
                clear x0 x1 x2 x3
              · have HF := Lib.hid (cuC_at (b := u) hx0 k hk0 hlt (fun s h1 h2 => HI.out s h1 h2) (HQ.out.trans (decide_eq_true hd)))
                have HR := Lib.hid (cuA_some HC.out HL.out HF.out (by omega))
                have HB4 : Hid (Below w.heap.size w v4) := HB3.out.trans (HE4.out.mono HB3.out.size)
                clear HB3 HE4
                go_wp2
                exact bodyPost_ret (v := .tuple #[.int .i64 (k : Int), .int .i64 0]) (by simp [results, Try.results33, go_sem]) rfl ⟨by unfold cuV; rw [HR.out], HB4.out⟩
              · have HJ : Hid (∀ s : Nat, (X : Int) ≤ (s : Int) → s < k + 1 → cuQ t u X s = false) := fun s h1 h2 => if e : s = k then (by subst e; exact HQ.out.trans (decide_eq_false (Int.not_le.2 hd))) else HI.out s h1 (by omega)
                have HK4 := HE4
                clear HE4
                go_wp2
                go_roundw
                case rel => exact ⟨k + 1, by omega, by omega, by go_num, HK4.out, HJ⟩
                case measure => simp [intOf]; omega
            · have HF := Lib.hid (cuA_none HC.out HL.out (cuC_no hx0 fun s hs1 hs2 => HI.out s hs1 (by omega)))
              have HB4 : Hid (Below w.heap.size w wr) := HB3.out.trans (hbel.mono HB3.out.size)
              clear hbel HB3
              go_wp2
              exact bodyPost_ret (v := .tuple #[.int .i64 0, .int .i64 3]) (by simp [results, Try.results33, go_sem]) rfl ⟨by unfold cuV; rw [HF.out], HB4.out⟩
        · have HR := Lib.hid (cuA_form (x := x) HC.out hl)
          have hlb : (t.1 != u.1) = true := by simp [hl]
          go_wp2_with (go_at_call 66; refine (l00In_any _ _ _ _).mono ?_; rintro e w' ⟨rfl, rfl⟩)
          exact bodyPost_ret (v := .tuple #[.int .i64 0, .int .i64 8]) (by simp [results, Try.results33, go_sem]) rfl ⟨by unfold cuV; rw [HR.out], (by repeat (first | exact Below.refl _ _ | exact HB.out | refine Below.drew ?_ | refine Below.drewN' ?_ _ | refine Below.alloc ?_ (by first | omega | (simp; try omega)) _ | refine Below.setCell ?_ (by first | omega | (simp; try omega)) _))⟩

set_option maxRecDepth 100000 in
set_option maxHeartbeats 10000000 in
theorem implCatchUp_any (t u : R4) (x : Int) (w : World) : Calls Try.prog 34 #[.agg #[.int .i64 t.1, .int .i64 t.2.1, .int .i64 t.2.2.1, .int .i64 t.2.2.2], .agg #[.int .i64 u.1, .int .i64 u.2.1, .int .i64 u.2.2.1, .int .i64 u.2.2.2], .int .i64 x] w fun e w' => e = .returned (cuV t u x) ∧ Below w.heap.size w w' := by
  have E3 := (Below.refl ((w.alloc (.cells (cRide t).toArray 25)).alloc (.cells (cRide u).toArray 25)).heap.size _).alloc (Nat.le_refl _) (.cells (cRide t ++ cRide u).toArray 25)
  have P0 := ((Box.alloc w (cRide t) 25).below ((Below.refl _ _).alloc (Nat.le_refl _) (.cells (cRide u).toArray 25))).below E3
  have Q0 := (Box.alloc' (w.alloc (.cells (cRide t).toArray 25)) (cRide u) 25 (w.heap.size + 1) (by simp)).below E3
  have S0 := Box.alloc' ((w.alloc (.cells (cRide t).toArray 25)).alloc (.cells (cRide u).toArray 25)) (cRide t ++ cRide u) 25 (w.heap.size + 1 + 1) (by simp)
  clear E3
  go_enter Try.func34, Try.ntmps34
  go_wp2_with fail
  refine (checkRides_any _ [t, u] 2 _ _ rfl (RR_of_box2 cRide_len S0) (by omega)).mono ?_
  rintro e w1 ⟨rfl, hb1⟩
  have P1 := P0.below hb1
  have Q1 := Q0.below hb1
  have HB : Hid (Below w.heap.size w w1) := (show Below w.heap.size w _ from (by repeat (first | exact Below.refl _ _ | exact HB.out | refine Below.drew ?_ | refine Below.drewN' ?_ _ | refine Below.alloc ?_ (by first | omega | (simp; try omega)) _ | refine Below.setCell ?_ (by first | omega | (simp; try omega)) _))).trans (hb1.mono (by simp; omega))
  clear hb1 P0 Q0 S0
  rw [codeR_two]
  go_wp2_with fail
  refine (checkRange_any _ x 10000 _).mono ?_
  rintro e w2 ⟨rfl, rfl⟩
  rcases code_waysM (rideB t && rideB u) x 10000 with ⟨_, HC⟩ | ⟨_, _, HC⟩ | ⟨hvu, HX, HC⟩
  · have HR := Lib.hid (cuA_code (a := t) (b := u) HC.out (by omega))
    rw [HC.out]
    go_wp2
    exact bodyPost_ret (v := .tuple #[.int .i64 0, .int .i64 1]) (by simp [results, Try.results34, go_sem]) rfl ⟨by unfold cuV; rw [HR.out], (by repeat (first | exact Below.refl _ _ | exact HB.out | refine Below.drew ?_ | refine Below.drewN' ?_ _ | refine Below.alloc ?_ (by first | omega | (simp; try omega)) _ | refine Below.setCell ?_ (by first | omega | (simp; try omega)) _))⟩
  · have HR := Lib.hid (cuA_code (a := t) (b := u) HC.out (by omega))
    rw [HC.out]
    go_wp2
    exact bodyPost_ret (v := .tuple #[.int .i64 0, .int .i64 2]) (by simp [results, Try.results34, go_sem]) rfl ⟨by unfold cuV; rw [HR.out], (by repeat (first | exact Below.refl _ _ | exact HB.out | refine Below.drew ?_ | refine Below.drewN' ?_ _ | refine Below.alloc ?_ (by first | omega | (simp; try omega)) _ | refine Below.setCell ?_ (by first | omega | (simp; try omega)) _))⟩
  · obtain ⟨hv, hu⟩ := and_yes hvu
    obtain ⟨hx0, hx1⟩ := inB_parts HX.out
    rw [HC.out]
    clear hvu
    obtain ⟨x0, x1, x2, x3⟩ := cRide_box P1
    obtain ⟨y0, y1, y2, y3⟩ := cRide_box Q1
    by_cases hl : t.1 = u.1
    · have HL := Lib.hid hl
      have hlb : (t.1 != u.1) = false := by simp [hl]
      clear hl
      by_cases hz : x = 0
      · have hzb : (x == 0) = true := by simp [hz]
        have HR := Lib.hid (cuA_some HC.out HL.out (show cuC t u x = 0 by rw [hz]; exact cu_zero hv) (by have := ticks_bounds hv; omega))
        clear hz
        go_wp2
        exact bodyPost_ret (v := .tuple #[.int .i64 0, .int .i64 0]) (by simp [results, Try.results34, go_sem]) rfl ⟨by unfold cuV; rw [HR.out]; rfl, (by repeat (first | exact Below.refl _ _ | exact HB.out | refine Below.drew ?_ | refine Below.drewN' ?_ _ | refine Below.alloc ?_ (by first | omega | (simp; try omega)) _ | refine Below.setCell ?_ (by first | omega | (simp; try omega)) _))⟩
      · have hzb : (x == 0) = false := by simp [hz]
        have hg1 := P1.1
        have hg2 := Q1.1
        have HPQ : Hid (Box w1 w.heap.size (cRide t) ∧ Box w1 (w.heap.size + 1) (cRide u)) := ⟨P1, Q1⟩
        clear P1 Q1
        go_upto_region 8 with fail
        go_cut [9, 10] (fun s9 s10 wx => ∃ (g h : Nat), s9 = .pointer (some ⟨g, 0, none⟩) ∧ s10 = .pointer (some ⟨h, 0, none⟩) ∧ Hid (Below w1.heap.size w1 wx) ∧ Hid (wx.heap[g]? = some (.cells #[.int .i64 (spR t).1, .int .i64 (spR t).2] 29 (0, 0))) ∧ Hid (wx.heap[h]? = some (.cells #[.int .i64 (spR u).1, .int .i64 (spR u).2] 29 (0, 0))))
        case first =>
          have HK : Hid (∀ w', Below w1.heap.size w1 w' → w'.cell? ⟨w.heap.size, 0, none⟩ = some (.int .i64 t.1) ∧ w'.cell? ⟨w.heap.size, 1, none⟩ = some (.int .i64 t.2.1) ∧ w'.cell? ⟨w.heap.size, 2, none⟩ = some (.int .i64 t.2.2.1) ∧ w'.cell? ⟨w.heap.size, 3, none⟩ = some (.int .i64 t.2.2.2) ∧ w'.cell? ⟨w.heap.size + 1, 0, none⟩ = some (.int .i64 u.1) ∧ w'.cell? ⟨w.heap.size + 1, 1, none⟩ = some (.int .i64 u.2.1) ∧ w'.cell? ⟨w.heap.size + 1, 2, none⟩ = some (.int .i64 u.2.2.1) ∧ w'.cell? ⟨w.heap.size + 1, 3, none⟩ = some (.int .i64 u.2.2.2)) := fun w' hh => ⟨(hh.cell (p := ⟨_, _, none⟩) hg1).trans x0, (hh.cell (p := ⟨_, _, none⟩) hg1).trans x1, (hh.cell (p := ⟨_, _, none⟩) hg1).trans x2, (hh.cell (p := ⟨_, _, none⟩) hg1).trans x3, (hh.cell (p := ⟨_, _, none⟩) hg2).trans y0, (hh.cell (p := ⟨_, _, none⟩) hg2).trans y1, (hh.cell (p := ⟨_, _, none⟩) hg2).trans y2, (hh.cell (p := ⟨_, _, none⟩) hg2).trans y3⟩
          clear x0 x1 x2 x3 y0 y1 y2 y3
          go_region_held3 (fun w' => w'.cell? ⟨w.heap.size, 0, none⟩ = some (.int .i64 t.1) ∧ w'.cell? ⟨w.heap.size, 1, none⟩ = some (.int .i64 t.2.1) ∧ w'.cell? ⟨w.heap.size, 2, none⟩ = some (.int .i64 t.2.2.1) ∧ w'.cell? ⟨w.heap.size, 3, none⟩ = some (.int .i64 t.2.2.2) ∧ w'.cell? ⟨w.heap.size + 1, 0, none⟩ = some (.int .i64 u.1) ∧ w'.cell? ⟨w.heap.size + 1, 1, none⟩ = some (.int .i64 u.2.1) ∧ w'.cell? ⟨w.heap.size + 1, 2, none⟩ = some (.int .i64 u.2.2.1) ∧ w'.cell? ⟨w.heap.size + 1, 3, none⟩ = some (.int .i64 u.2.2.2))
            (first | exact HK.out _ (by repeat (first | exact Below.refl _ _ | refine Below.drew ?_ | refine Below.alloc ?_ (by first | omega | (simp; done) | (simp; omega) | (have h1 := hb1.size; simp at h1 ⊢; omega) | (have h2 := hb2.size; simp at h2 ⊢; omega) | (have h1 := hb1.size; have h2 := hb2.size; simp at h1 h2 ⊢; omega)) _ | refine Below.setCell ?_ (by first | omega | (simp; done) | (simp; omega) | (have h1 := hb1.size; simp at h1 ⊢; omega) | (have h2 := hb2.size; simp at h2 ⊢; omega) | (have h1 := hb1.size; have h2 := hb2.size; simp at h1 h2 ⊢; omega)) _ | refine Below.trans ?_ (hb1.mono (by first | omega | (simp; done) | (simp; omega) | (have h1 := hb1.size; simp at h1 ⊢; omega) | (have h2 := hb2.size; simp at h2 ⊢; omega) | (have h1 := hb1.size; have h2 := hb2.size; simp at h1 h2 ⊢; omega))) | refine Below.trans ?_ (hb2.mono (by first | omega | (simp; done) | (simp; omega) | (have h1 := hb1.size; simp at h1 ⊢; omega) | (have h2 := hb2.size; simp at h2 ⊢; omega) | (have h1 := hb1.size; have h2 := hb2.size; simp at h1 h2 ⊢; omega))))))
            (first | (go_at_call_of 54 t; refine (speed_any t _ hv).mono ?_; rintro e v1 ⟨rfl, hb1⟩; obtain ⟨hc1, hf1⟩ := bcell hb1; have hs1 := hb1.size; (try simp at hs1); have hk1 : w1.heap.size ≤ v1.heap.size := (by omega); (try have hk2 : w1.heap.size < v1.heap.size := (by omega)); (try have hk3 : w1.heap.size + 1 < v1.heap.size := (by omega)); (try have hk4 : w1.heap.size + 1 ≤ v1.heap.size := (by omega)); (try have hn1 : ¬ w1.heap.size = v1.heap.size := (by omega)); (try have hn2 : ¬ v1.heap.size = w1.heap.size := (by omega)); (try have ga := keep_blk hb1 (heap_alloc_at _ _ w1.heap.size rfl)); (try have gb := keep_blk hb1 ((Below.heap_alloc _ _ _ (Nat.lt_of_lt_of_eq (Nat.lt_succ_self _) (World.size_alloc _ _).symm)).trans (heap_alloc_at _ _ w1.heap.size rfl))); (try have gc := keep_blk hb1 (heap_alloc_at _ _ (w1.heap.size + 1) (World.size_alloc _ _).symm))) | (go_at_call_of 54 u; refine (speed_any u _ hu).mono ?_; rintro e v2 ⟨rfl, hb2⟩; obtain ⟨hc2, hf2⟩ := bcell hb2; have hs2 := hb2.size; (try simp at hs2); have hk5 : w1.heap.size ≤ v2.heap.size := (by omega); (try have hk6 : w1.heap.size < v2.heap.size := (by omega)); (try have hk7 : w1.heap.size + 1 < v2.heap.size := (by omega)); (try have hk8 : w1.heap.size + 1 ≤ v2.heap.size := (by omega)); (try have hk9 : v1.heap.size < v2.heap.size := (by omega)); (try have hk10 : v1.heap.size + 1 < v2.heap.size := (by omega)); (try have hk11 : w1.heap.size < v1.heap.size + 1 := (by omega)); (try have hk12 : w1.heap.size < v1.heap.size + 1 + 1 := (by omega)); (try have hn3 : ¬ w1.heap.size = v2.heap.size := (by omega)); (try have hn4 : ¬ v2.heap.size = w1.heap.size := (by omega)); (try have hn5 : ¬ v1.heap.size = v2.heap.size := (by omega)); (try have hn6 : ¬ v2.heap.size = v1.heap.size := (by omega)); (try have ha' := keep_blk hb2 ga); (try have ha' := keep_blk hb2 ((Below.heap_alloc _ _ _ (blk_lt ga)).trans ga)); (try have cga0 := (blk_cells ha').1.1); (try have cga1 := (blk_cells ha').1.2); (try have fga0 := (blk_cells ha').2.1); (try have fga1 := (blk_cells ha').2.2.1); (try have hb' := keep_blk hb2 gb); (try have hb' := keep_blk hb2 ((Below.heap_alloc _ _ _ (blk_lt gb)).trans gb)); (try have cgb0 := (blk_cells hb').1.1); (try have cgb1 := (blk_cells hb').1.2); (try have fgb0 := (blk_cells hb').2.1); (try have fgb1 := (blk_cells hb').2.2.1); (try have hc' := keep_blk hb2 gc); (try have hc' := keep_blk hb2 ((Below.heap_alloc _ _ _ (blk_lt gc)).trans gc)); (try have cgc0 := (blk_cells hc').1.1); (try have cgc1 := (blk_cells hc').1.2); (try have fgc0 := (blk_cells hc').2.1); (try have fgc1 := (blk_cells hc').2.2.1); (try have hd' := keep_blk hb2 (heap_alloc_at _ _ v1.heap.size rfl)); (try have hd' := keep_blk hb2 ((Below.heap_alloc _ _ _ (Nat.lt_of_lt_of_eq (Nat.lt_succ_self _) (World.size_alloc _ _).symm)).trans (heap_alloc_at _ _ v1.heap.size rfl))); (try have he' := keep_blk hb2 (heap_alloc_at _ _ (v1.heap.size + 1) (World.size_alloc _ _).symm)); (try have cd0 := (blk_cells hd').1.1); (try have cd1 := (blk_cells hd').1.2); (try have fd0 := (blk_cells hd').2.1); (try have fd1 := (blk_cells hd').2.2.1); (try have ce0 := (blk_cells he').1.1); (try have ce1 := (blk_cells he').1.2); (try have fe0 := (blk_cells he').2.1); (try have fe1 := (blk_cells he').2.2.1)))
          all_goals
            go_wp2_with fail
            go_meet
            refine ⟨_, _, rfl, rfl, ?_, ?_, ?_⟩
            · refine Lib.hid ?_
              exact (by repeat (first | with_reducible exact Below.refl _ _ | with_reducible refine Below.drew ?_ | with_reducible refine Below.alloc ?_ (by first | omega | (simp; done) | (simp; omega) | (have h1 := hb1.size; simp at h1 ⊢; omega) | (have h2 := hb2.size; simp at h2 ⊢; omega) | (have h1 := hb1.size; have h2 := hb2.size; simp at h1 h2 ⊢; omega)) _ | with_reducible refine Below.setCell ?_ (by first | omega | (simp; done) | (simp; omega) | (have h1 := hb1.size; simp at h1 ⊢; omega) | (have h2 := hb2.size; simp at h2 ⊢; omega) | (have h1 := hb1.size; have h2 := hb2.size; simp at h1 h2 ⊢; omega)) _ | with_reducible refine Below.trans ?_ (hb1.mono (by first | omega | (simp; done) | (simp; omega) | (have h1 := hb1.size; simp at h1 ⊢; omega) | (have h2 := hb2.size; simp at h2 ⊢; omega) | (have h1 := hb1.size; have h2 := hb2.size; simp at h1 h2 ⊢; omega))) | with_reducible refine Below.trans ?_ (hb2.mono (by first | omega | (simp; done) | (simp; omega) | (have h1 := hb1.size; simp at h1 ⊢; omega) | (have h2 := hb2.size; simp at h2 ⊢; omega) | (have h1 := hb1.size; have h2 := hb2.size; simp at h1 h2 ⊢; omega)))))
            · refine Lib.hid ?_
              exact (by repeat (first | with_reducible exact ha' | with_reducible exact hb' | with_reducible exact hc' | with_reducible exact hd' | with_reducible exact he' | with_reducible exact heap_alloc_at _ _ _ (by first | rfl | (simp; done)) | with_reducible refine store_pair (x := .int .i64 0) (y := .int .i64 0) ?_ | with_reducible refine store_other ?_ (by first | omega | (simp; done) | (simp; omega) | (have h1 := hb1.size; simp at h1 ⊢; omega) | (have h2 := hb2.size; simp at h2 ⊢; omega) | (have h1 := hb1.size; have h2 := hb2.size; simp at h1 h2 ⊢; omega)) | with_reducible refine (Below.heap_alloc _ _ _ (by first | omega | (simp; done) | (simp; omega) | (have h1 := hb1.size; simp at h1 ⊢; omega) | (have h2 := hb2.size; simp at h2 ⊢; omega) | (have h1 := hb1.size; have h2 := hb2.size; simp at h1 h2 ⊢; omega))).trans ?_))
            · refine Lib.hid ?_
              exact (by repeat (first | with_reducible exact ha' | with_reducible exact hb' | with_reducible exact hc' | with_reducible exact hd' | with_reducible exact he' | with_reducible exact heap_alloc_at _ _ _ (by first | rfl | (simp; done)) | with_reducible refine store_pair (x := .int .i64 0) (y := .int .i64 0) ?_ | with_reducible refine store_other ?_ (by first | omega | (simp; done) | (simp; omega) | (have h1 := hb1.size; simp at h1 ⊢; omega) | (have h2 := hb2.size; simp at h2 ⊢; omega) | (have h1 := hb1.size; have h2 := hb2.size; simp at h1 h2 ⊢; omega)) | with_reducible refine (Below.heap_alloc _ _ _ (by first | omega | (simp; done) | (simp; omega) | (have h1 := hb1.size; simp at h1 ⊢; omega) | (have h2 := hb2.size; simp at h2 ⊢; omega) | (have h1 := hb1.size; have h2 := hb2.size; simp at h1 h2 ⊢; omega))).trans ?_))
        case rest =>
          obtain ⟨g, h, rfl, rfl, HBX, HCX, HDX⟩ := hcut
          generalize wc = w5 at *
          obtain ⟨⟨g0, g1⟩, _, _, hgl⟩ := blk_cells HCX.out
          obtain ⟨⟨h0, h1⟩, _, _, hhl⟩ := blk_cells HDX.out
          obtain ⟨a1, a2, a3, a4⟩ := sp_bounds hv
          obtain ⟨b1, b2, b3, b4⟩ := sp_bounds hu
          obtain ⟨t5, t6⟩ := ticks_bounds hv
          have HP5 : Hid (Box w5 w.heap.size (cRide t)) := HPQ.out.1.below HBX.out
          have HB5 : Hid (Below w.heap.size w w5) := HB.out.trans (HBX.out.mono HB.out.size)
          have hxp : 0 < x := by omega
          obtain ⟨m1, m2⟩ := mul_le_of (a := (spR u).1) (b := (spR t).2) (A := 10000) (B := 1000) (by omega) (by omega) (by omega) (by omega)
          obtain ⟨m3, m4⟩ := mul_le_of (a := (spR t).1) (b := (spR u).2) (A := 10000) (B := 1000) (by omega) (by omega) (by omega) (by omega)
          by_cases hs : spR t = spR u
          · have HR := Lib.hid (cuA_none HC.out HL.out (cu_slow hv hu hxp (by rw [hs]; exact Int.le_refl _)))
            rw [← hs] at h0 h1
            go_wp2
            exact bodyPost_ret (v := .tuple #[.int .i64 0, .int .i64 3]) (by simp [results, Try.results34, go_sem]) rfl ⟨by unfold cuV; rw [HR.out], HB5.out⟩
          · have hB : ((spR u).1 == (spR t).1) = false ∨ (((spR u).1 == (spR t).1) = true ∧ ((spR u).2 == (spR t).2) = false) := by
              by_cases e1 : (spR u).1 = (spR t).1
              · by_cases e2 : (spR u).2 = (spR t).2
                · exact absurd (Prod.ext e1.symm e2.symm) hs
                · exact .inr ⟨by simp [e1], by simp [e2]⟩
              · exact .inl (by simp [e1])
            have HNE : Hid (¬ (spR t).1 * (spR u).2 = (spR u).1 * (spR t).2) := fun h => hs (sp_same hv hu h)
            clear hs
            have HK : Hid (∀ w', Below w5.heap.size w5 w' → w'.cell? ⟨g, 0, none⟩ = some (.int .i64 (spR t).1) ∧ w'.cell? ⟨g, 1, none⟩ = some (.int .i64 (spR t).2) ∧ w'.cell? ⟨h, 0, none⟩ = some (.int .i64 (spR u).1) ∧ w'.cell? ⟨h, 1, none⟩ = some (.int .i64 (spR u).2)) := fun w' hh => ⟨(hh.cell (p := ⟨_, _, none⟩) hgl).trans g0, (hh.cell (p := ⟨_, _, none⟩) hgl).trans g1, (hh.cell (p := ⟨_, _, none⟩) hhl).trans h0, (hh.cell (p := ⟨_, _, none⟩) hhl).trans h1⟩
            rcases hB with i1 | ⟨i1, i2⟩
            all_goals
              go_wp2_with fail
              refine (isLess_any _ _ _ _ _ m1 (by omega) m3 (by omega)).mono ?_
              rintro e w6 ⟨rfl, hb6⟩
              have HB6 : Hid (Below w.heap.size w w6) := HB5.out.trans (hb6.mono HB5.out.size)
              have HP6 : Hid (Box w6 w.heap.size (cRide t)) := HP5.out.below hb6
              have HK6 : Hid (∀ w', Below w6.heap.size w6 w' → w'.cell? ⟨g, 0, none⟩ = some (.int .i64 (spR t).1) ∧ w'.cell? ⟨g, 1, none⟩ = some (.int .i64 (spR t).2) ∧ w'.cell? ⟨h, 0, none⟩ = some (.int .i64 (spR u).1) ∧ w'.cell? ⟨h, 1, none⟩ = some (.int .i64 (spR u).2)) := fun w' hh => HK.out w' (hb6.trans (hh.mono hb6.size))
              clear hb6 g0 g1 h0 h1 HK
              by_cases hd : (spR u).1 * (spR t).2 < (spR t).1 * (spR u).2
              · have HR := Lib.hid (cuA_none HC.out HL.out (cu_slow hv hu hxp (by omega)))
                go_wp2
                exact bodyPost_ret (v := .tuple #[.int .i64 0, .int .i64 3]) (by simp [results, Try.results34, go_sem]) rfl ⟨by unfold cuV; rw [HR.out], HB6.out⟩
              · have hf : (spR t).1 * (spR u).2 < (spR u).1 * (spR t).2 := by have := HNE.out; omega
                obtain ⟨F1, F2, F3⟩ := cu_fast hv hu (x := x) hx0 hf
                have HF1 := Lib.hid F1
                have HF2 := Lib.hid F2
                obtain ⟨q1, q2⟩ := mul_le_of (a := (spR u).2) (b := (spR t).2) (A := 1000) (B := 1000) (by omega) (by omega) (by omega) (by omega)
                have q3 : 1 ≤ (spR u).2 * (spR t).2 := Int.mul_pos (by omega) (by omega)
                obtain ⟨r1, r2⟩ := mul_le_of (a := (spR t).1) (b := x) (A := 10000) (B := 10000) (by omega) (by omega) (by omega) (by omega)
                obtain ⟨_, _, -, -, k1, k2, k3, k4, k5⟩ := low_parts ((spR u).1 * (spR t).2 - (spR t).1 * (spR u).2) ((spR u).2 * (spR t).2) (by omega) (by omega)
                obtain ⟨_, _, -, -, j1, j2, j3, j4, _⟩ := low_parts ((spR t).1 * x) (spR t).2 r1 (by omega)
                have k6 := k5 (by omega)
                obtain ⟨s1, s2⟩ := mul_le_of (a := (lowI ((spR t).1 * x) (spR t).2).1) (b := (lowI ((spR u).1 * (spR t).2 - (spR t).1 * (spR u).2) ((spR u).2 * (spR t).2)).2) (A := 100000000) (B := 1000000) (by omega) (by omega) (by omega) (by omega)
                obtain ⟨s3, s4⟩ := mul_le_of (a := (lowI ((spR t).1 * x) (spR t).2).2) (b := (lowI ((spR u).1 * (spR t).2 - (spR t).1 * (spR u).2) ((spR u).2 * (spR t).2)).1) (A := 1000) (B := 10000000) (by omega) (by omega) (by omega) (by omega)
                have s5 : 1 ≤ (lowI ((spR t).1 * x) (spR t).2).2 * (lowI ((spR u).1 * (spR t).2 - (spR t).1 * (spR u).2) ((spR u).2 * (spR t).2)).1 := Int.mul_pos (by omega) (by omega)
                have HU : Hid (((lowI ((spR t).1 * x) (spR t).2).1 * (lowI ((spR u).1 * (spR t).2 - (spR t).1 * (spR u).2) ((spR u).2 * (spR t).2)).2 + (lowI ((spR t).1 * x) (spR t).2).2 * (lowI ((spR u).1 * (spR t).2 - (spR t).1 * (spR u).2) ((spR u).2 * (spR t).2)).1 - 1) / ((lowI ((spR t).1 * x) (spR t).2).2 * (lowI ((spR u).1 * (spR t).2 - (spR t).1 * (spR u).2) ((spR u).2 * (spR t).2)).1) = cuU t u x) := rfl
                have hU1 : cuU t u x ≤ 100000000000000 := by
                  rw [cuU_is hv hu hx0 hf]
                  have z1 := mul_le_of (a := x) (b := (spR t).1 * (spR u).2) (A := 10000) (B := 10000000) (by omega) (by omega) (by omega) (by omega)
                  have z2 : (1 : Int) ≤ (spR u).1 * (spR t).2 - (spR t).1 * (spR u).2 := by omega
                  omega
                have HCI : Hid (∀ w', Calls Try.prog 70 #[.agg #[.int .i64 (lowI ((spR u).1 * (spR t).2 - (spR t).1 * (spR u).2) ((spR u).2 * (spR t).2)).1, .int .i64 (lowI ((spR u).1 * (spR t).2 - (spR t).1 * (spR u).2) ((spR u).2 * (spR t).2)).2], .agg #[.int .i64 (lowI ((spR t).1 * x) (spR t).2).1, .int .i64 (lowI ((spR t).1 * x) (spR t).2).2]] w' fun e w'' => e = .returned (.int .i64 (cuU t u x)) ∧ Below w'.heap.size w' w'') := fun w' => by
                  have hh := countIn_gen (lowI ((spR u).1 * (spR t).2 - (spR t).1 * (spR u).2) ((spR u).2 * (spR t).2)).1 (lowI ((spR u).1 * (spR t).2 - (spR t).1 * (spR u).2) ((spR u).2 * (spR t).2)).2 (lowI ((spR t).1 * x) (spR t).2).1 (lowI ((spR t).1 * x) (spR t).2).2 w' s1 (by omega) s5 (by omega)
                  rw [HU.out] at hh
                  exact hh
                have HMI : Hid (∀ w', Calls Try.prog 69 #[.agg #[.int .i64 (spR u).1, .int .i64 (spR u).2], .agg #[.int .i64 (spR t).1, .int .i64 (spR t).2]] w' fun e w'' => e = .returned (.agg #[.int .i64 (lowI ((spR u).1 * (spR t).2 - (spR t).1 * (spR u).2) ((spR u).2 * (spR t).2)).1, .int .i64 (lowI ((spR u).1 * (spR t).2 - (spR t).1 * (spR u).2) ((spR u).2 * (spR t).2)).2]) ∧ Below w'.heap.size w' w'') := fun w' => minus_any _ _ _ _ w' m1 (by omega) m3 (by omega) (by omega) q3 (by omega)
                have HTI : Hid (∀ w', Calls Try.prog 67 #[.agg #[.int .i64 (spR t).1, .int .i64 (spR t).2], .int .i64 x] w' fun e w'' => e = .returned (.agg #[.int .i64 (lowI ((spR t).1 * x) (spR t).2).1, .int .i64 (lowI ((spR t).1 * x) (spR t).2).2]) ∧ Below w'.heap.size w' w'') := fun w' => times_any _ _ x w' r1 (by omega) a3 (by omega)
                have HWX : IntKind.i64.wrap (x + cuU t u x) = x + cuU t u x := IntWalk.i64_in _ (by omega)
                have d := (Below.refl w6.heap.size w6).drew
                clear m1 m2 m3 m4 q1 q2 q3 r1 r2 k1 k2 k3 k4 k5 k6 j1 j2 j3 j4 s1 s2 s3 s4 s5 HU F1 F2 HNE i1 hf
                go_wp2_with fail
                go_region_held3 (fun w' => w'.cell? ⟨g, 0, none⟩ = some (.int .i64 (spR t).1) ∧ w'.cell? ⟨g, 1, none⟩ = some (.int .i64 (spR t).2) ∧ w'.cell? ⟨h, 0, none⟩ = some (.int .i64 (spR u).1) ∧ w'.cell? ⟨h, 1, none⟩ = some (.int .i64 (spR u).2))
                  (first | exact HK6.out _ (Below.refl _ _) | exact HK6.out _ d | exact HK6.out _ (d.trans hb7) | exact HK6.out _ ((d.trans hb7).trans (hb8.mono (d.trans hb7).size)) | exact HK6.out _ (((d.trans hb7).trans (hb8.mono (d.trans hb7).size)).trans (hb9.mono ((d.trans hb7).trans (hb8.mono (d.trans hb7).size)).size)))
                  (first | (go_at_call 69; refine (HMI.out _).mono ?_; rintro e w7 ⟨rfl, hb7⟩) | (go_at_call 67; refine (HTI.out _).mono ?_; rintro e w8 ⟨rfl, hb8⟩) | (go_at_call 70; refine (HCI.out _).mono ?_; rintro e w9 ⟨rfl, hb9⟩))
                have HD9 : Hid (Below w6.heap.size w6 w9) := ((d.trans hb7).trans (hb8.mono (d.trans hb7).size)).trans (hb9.mono ((d.trans hb7).trans (hb8.mono (d.trans hb7).size)).size)
                have HB9 : Hid (Below w.heap.size w w9) := HB6.out.trans (HD9.out.mono HB6.out.size)
                obtain ⟨x0, x1, x2, x3⟩ := cRide_box (HP6.out.below HD9.out)
                clear hb7 hb8 hb9 d HK6 HD9 HP6 HB6
                (try rw [HWX])
                go_wp2_with fail
                refine (rticks_any t _ hv).mono ?_
                rintro e w10 ⟨rfl, hb10⟩
                have HB10 : Hid (Below w.heap.size w w10) := HB9.out.trans (hb10.mono HB9.out.size)
                clear hb10 HB9 x0 x1 x2 x3
                by_cases hg : ticksR t ≤ x + cuU t u x
                · have HR := Lib.hid (cuA_none HC.out HL.out (HF1.out hg))
                  go_wp2
                  exact bodyPost_ret (v := .tuple #[.int .i64 0, .int .i64 3]) (by simp [results, Try.results34, go_sem]) rfl ⟨by unfold cuV; rw [HR.out], HB10.out⟩
                · have e1 := HF2.out (by omega)
                  have e2 : (((x + cuU t u x).toNat : Nat) : Int) = x + cuU t u x := by omega
                  have HR := Lib.hid (cuA_some HC.out HL.out e1 (by omega))
                  have HE2 := Lib.hid e2
                  clear e1 e2
                  go_wp2
                  exact bodyPost_ret (v := .tuple #[.int .i64 (x + cuU t u x), .int .i64 0]) (by simp [results, Try.results34, go_sem]) rfl ⟨by unfold cuV; rw [HR.out, HE2.out], HB10.out⟩
    · have HR := Lib.hid (cuA_form (x := x) HC.out hl)
      have hlb : (t.1 != u.1) = true := by simp [hl]
      go_wp2
      exact bodyPost_ret (v := .tuple #[.int .i64 0, .int .i64 8]) (by simp [results, Try.results34, go_sem]) rfl ⟨by unfold cuV; rw [HR.out], (by repeat (first | exact Below.refl _ _ | exact HB.out | refine Below.drew ?_ | refine Below.drewN' ?_ _ | refine Below.alloc ?_ (by first | omega | (simp; try omega)) _ | refine Below.setCell ?_ (by first | omega | (simp; try omega)) _))⟩
end Go.Proofs.Ytcehkkamepdkoaa
