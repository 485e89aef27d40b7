/-
  The walks of PressureFor and HeaviestFor, the model's and the program's.
-/
import Derived.Test.YtcehkkamepdkoaaPress
namespace Go.Proofs.Ytcehkkamepdkoaa
open Go.RowKit

theorem l03Goal_any (pb po : Nat) (t : R4) (x : Int) (w : World) (p0 : w.cell? ⟨pb, po, none⟩ = some (.int .i64 t.1)) (p1 : w.cell? ⟨pb, po + 1, none⟩ = some (.int .i64 t.2.1)) (p2 : w.cell? ⟨pb, po + 2, none⟩ = some (.int .i64 t.2.2.1)) (p3 : w.cell? ⟨pb, po + 3, none⟩ = some (.int .i64 t.2.2.2)) :
    Calls Try.prog 61 #[.pointer (some ⟨pb, po, none⟩), .int .i64 x] w fun e w' => e = .returned (.int .i64 (rangeC (okC (rideB t)) x 1000000)) ∧ Below w.heap.size w w' := by
  go_enter Try.func61, Try.ntmps61
  go_wp2_with fail
  refine (l03Ok_any pb po t _ p0 p1 p2 p3).mono ?_
  rintro e w1 ⟨rfl, hb1⟩
  clear p0 p1 p2 p3
  cases hv : rideB t with
  | false =>
    go_wp2
    go_ret
    exact ⟨ret_int (by rw [hv]; rfl), hb1⟩
  | true =>
    have hok : okC true = 0 := rfl
    cases hx : inB x 0 1000000 with
    | true =>
      have HR := Lib.hid (rangeC_in hx)
      go_wp2_with (go_at_call 66; refine (l00In_any _ _ _ _).mono ?_; rintro e w' ⟨rfl, rfl⟩)
      go_ret
      exact ⟨ret_int (by rw [hv, hok, HR.out]), hb1⟩
    | false =>
      have HR := Lib.hid (rangeC_out hx)
      go_wp2_with (go_at_call 66; refine (l00In_any _ _ _ _).mono ?_; rintro e w' ⟨rfl, rfl⟩)
      go_ret
      exact ⟨ret_int (by rw [hv, hok, HR.out]), hb1⟩
/-- The three ways of the code. -/
theorem code_ways (b : Bool) (x : Int) : (b = false ∧ Hid (rangeC (okC b) x 1000000 = 1)) ∨ (b = true ∧ Hid (inB x 0 1000000 = false) ∧ Hid (rangeC (okC b) x 1000000 = 2)) ∨ (b = true ∧ Hid (inB x 0 1000000 = true) ∧ Hid (rangeC (okC b) x 1000000 = 0)) := by
  cases b with
  | false => exact .inl ⟨rfl, rfl⟩
  | true => cases hx : inB x 0 1000000 with
    | false => exact .inr (.inl ⟨rfl, rfl, rangeC_out hx⟩)
    | true => exact .inr (.inr ⟨rfl, rfl, rangeC_in hx⟩)

set_option maxRecDepth 100000 in
set_option maxHeartbeats 2000000 in
theorem specPressureFor_any (t : R4) (x : Int) (w : World) : Calls Try.prog 27 #[.agg #[.int .i64 t.1, .int .i64 t.2.1, .int .i64 t.2.2.1, .int .i64 t.2.2.2], .int .i64 x] w fun e w' => e = .returned (pfV t x) ∧ Below w.heap.size w w' := by
  have P0 := Box.alloc w (cRide t) 25
  obtain ⟨p0, p1, p2, p3⟩ := cRide_box P0
  go_enter Try.func27, Try.ntmps27
  go_wp2_with fail
  refine (l03Goal_any _ 0 t x _ p0 p1 p2 p3).mono ?_
  rintro e w1 ⟨rfl, hb1⟩
  have P1 := P0.below hb1
  have HB : Hid (Below w.heap.size w w1) := (show Below w.heap.size w _ from (by repeat (first | exact Below.refl _ _ | exact HB.out | refine Below.drew ?_ | refine Below.drewN' ?_ _ | refine Below.alloc ?_ (by first | omega | (simp; try omega)) _ | refine Below.setCell ?_ (by first | omega | (simp; try omega)) _))).trans (hb1.mono (by simp))
  clear hb1 P0 p0 p1 p2 p3
  rcases code_ways (rideB t) x with ⟨_, HC⟩ | ⟨_, _, HC⟩ | ⟨hv, HX, HC⟩
  · have HR := Lib.hid (pfA_code HC.out (by omega))
    rw [HC.out]
    go_wp2
    exact bodyPost_ret (v := .tuple #[.int .i64 0, .int .i64 1]) (by simp [results, Try.results27, go_sem]) rfl ⟨by unfold pfV; rw [HR.out], (by repeat (first | exact Below.refl _ _ | exact HB.out | refine Below.drew ?_ | refine Below.drewN' ?_ _ | refine Below.alloc ?_ (by first | omega | (simp; try omega)) _ | refine Below.setCell ?_ (by first | omega | (simp; try omega)) _))⟩
  · have HR := Lib.hid (pfA_code HC.out (by omega))
    rw [HC.out]
    go_wp2
    exact bodyPost_ret (v := .tuple #[.int .i64 0, .int .i64 2]) (by simp [results, Try.results27, go_sem]) rfl ⟨by unfold pfV; rw [HR.out], (by repeat (first | exact Below.refl _ _ | exact HB.out | refine Below.drew ?_ | refine Below.drewN' ?_ _ | refine Below.alloc ?_ (by first | omega | (simp; try omega)) _ | refine Below.setCell ?_ (by first | omega | (simp; try omega)) _))⟩
  · have hx := (inB_parts HX.out).1
    rw [HC.out]
    have HV := Lib.hid hv
    have HP1 := Lib.hid P1
    clear hv P1
    go_wp2
    go_loopw [7] (fun p wr => ∃ k : Nat, k ≤ 100 ∧ p = .int .i64 (1 + (k : Int)) ∧ Below w1.heap.size w1 wr ∧ Hid (∀ s, s < k → metQ t x s = false)) (fun p _ => 200 - (intOf p).toNat)
    case atStart => exact ⟨0, by omega, rfl, Below.refl _ _, fun s h => absurd h (Nat.not_lt_zero _)⟩
    case round =>
      obtain ⟨k, hk, rfl, hbel, HI⟩ := hrel
      by_cases hlt : k < 100
      · have hv := wP_ok (p := 1 + (k : Int)) HV.out (by omega) (by omega)
        obtain ⟨x0, x1, x2, x3⟩ := cRide_box (HP1.out.below hbel)
        have hsz := hbel.size
        have hgw := HP1.out.1
        have HE := Lib.hid hbel
        clear hbel
        have HQ : Hid (metQ t x k = decide (ticksR (wP t (1 + (k : Int))) ≤ x)) := rfl
        go_wp2_with fail
        refine (l03Ticks_any _ 0 (wP t (1 + (k : Int))) _ hv (by simp [go_sem, wP]) (by simp [go_sem, wP]) (by simp [go_sem, wP]) (by simp [go_sem, wP])).mono ?_
        rintro e w2 ⟨rfl, m, hw2⟩
        have HE2 : Hid (Below w1.heap.size w1 w2) := by
          rw [hw2]
          exact Below.drewN' (by repeat (first | exact HE.out | refine Below.alloc ?_ (by first | omega | (simp; try omega)) _ | refine Below.setCell ?_ (by first | omega | (simp; try omega)) _)) _
        clear hw2 HE x0 x1 x2 x3 HP1
        by_cases hd : ticksR (wP t (1 + (k : Int))) ≤ x
        · have HF := Lib.hid (firstN_is (metQ t x) k 100 0 (by omega) (by omega) (fun s _ h => HI.out s h) (fun _ => HQ.out.trans (decide_eq_true hd)))
          have HR := Lib.hid (pfA_some HC.out HF.out (by omega))
          have HB2 : Hid (Below w.heap.size w w2) := HB.out.trans (HE2.out.mono HB.out.size)
          clear HB HE2
          have HB := HB2
          go_wp2
          exact bodyPost_ret (v := .tuple #[.int .i64 (1 + (k : Int)), .int .i64 0]) (by simp [results, Try.results27, go_sem]) rfl ⟨by unfold pfV; rw [HR.out]; simp [Int.add_comm], (by repeat (first | exact Below.refl _ _ | exact HB.out | refine Below.drew ?_ | refine Below.drewN' ?_ _ | refine Below.alloc ?_ (by first | omega | (simp; try omega)) _ | refine Below.setCell ?_ (by first | omega | (simp; try omega)) _))⟩
        · have HJ : Hid (∀ s, s < k + 1 → metQ t x s = false) := fun s h => if e : s = k then (by subst e; exact HQ.out.trans (decide_eq_false hd)) else HI.out s (by omega)
          go_wp2
          go_roundw
          case rel => exact ⟨k + 1, by omega, by go_num, HE2.out, HJ⟩
          case measure => simp [intOf]; omega
      · have HF := Lib.hid (firstN_is (metQ t x) 100 100 0 (by omega) (by omega) (fun s _ h => HI.out s (by omega)) (fun h => absurd h (by omega)))
        have HR := Lib.hid (pfA_none HC.out HF.out)
        have HB2 : Hid (Below w.heap.size w wr) := HB.out.trans (hbel.mono HB.out.size)
        clear HB hbel
        have HB := HB2
        go_wp2
        exact bodyPost_ret (v := .tuple #[.int .i64 0, .int .i64 3]) (by simp [results, Try.results27, go_sem]) rfl ⟨by unfold pfV; rw [HR.out], (by repeat (first | exact Below.refl _ _ | exact HB.out | refine Below.drew ?_ | refine Below.drewN' ?_ _ | refine Below.alloc ?_ (by first | omega | (simp; try omega)) _ | refine Below.setCell ?_ (by first | omega | (simp; try omega)) _))⟩

set_option maxRecDepth 100000 in
set_option maxHeartbeats 2000000 in
theorem implPressureFor_any (t : R4) (x : Int) (w : World) : Calls Try.prog 28 #[.agg #[.int .i64 t.1, .int .i64 t.2.1, .int .i64 t.2.2.1, .int .i64 t.2.2.2], .int .i64 x] w fun e w' => e = .returned (pfV t x) ∧ Below w.heap.size w w' := by
  have P1 := Box.alloc w (cRide t) 25
  have Q1 := Box.alloc' (w.alloc (.cells (cRide t).toArray 25)) (cRide t) 25 (w.heap.size + 1) (by simp)
  have P2 := P1.below ((Below.refl _ _).alloc (Nat.le_refl _) (.cells (cRide t).toArray 25))
  have Q2 := Box.RR (k := 4) Q1
  clear P1 Q1
  go_enter Try.func28, Try.ntmps28
  go_wp2_with fail
  refine (checkRides_any _ [t] 1 _ _ rfl Q2 (by omega)).mono ?_
  rintro e w1 ⟨rfl, hb1⟩
  have P3 := P2.below hb1
  have HB : Hid (Below w.heap.size w w1) := (show Below w.heap.size w _ from (by repeat (first | exact Below.refl _ _ | exact HB.out | refine Below.drew ?_ | refine Below.drewN' ?_ _ | refine Below.alloc ?_ (by first | omega | (simp; try omega)) _ | refine Below.setCell ?_ (by first | omega | (simp; try omega)) _))).trans (hb1.mono (by simp; omega))
  clear hb1 P2
  rw [codeR_one]
  go_wp2_with fail
  refine (checkRange_any _ x 1000000 _).mono ?_
  rintro e w2 ⟨rfl, rfl⟩
  rcases code_ways (rideB t) x with ⟨_, HC⟩ | ⟨_, _, HC⟩ | ⟨hv, HX, HC⟩
  · have HR := Lib.hid (pfA_code HC.out (by omega))
    rw [HC.out]
    go_wp2
    exact bodyPost_ret (v := .tuple #[.int .i64 0, .int .i64 1]) (by simp [results, Try.results28, go_sem]) rfl ⟨by unfold pfV; rw [HR.out], (by repeat (first | exact Below.refl _ _ | exact HB.out | refine Below.drew ?_ | refine Below.drewN' ?_ _ | refine Below.alloc ?_ (by first | omega | (simp; try omega)) _ | refine Below.setCell ?_ (by first | omega | (simp; try omega)) _))⟩
  · have HR := Lib.hid (pfA_code HC.out (by omega))
    rw [HC.out]
    go_wp2
    exact bodyPost_ret (v := .tuple #[.int .i64 0, .int .i64 2]) (by simp [results, Try.results28, go_sem]) rfl ⟨by unfold pfV; rw [HR.out], (by repeat (first | exact Below.refl _ _ | exact HB.out | refine Below.drew ?_ | refine Below.drewN' ?_ _ | refine Below.alloc ?_ (by first | omega | (simp; try omega)) _ | refine Below.setCell ?_ (by first | omega | (simp; try omega)) _))⟩
  · have hx := (inB_parts HX.out).1
    rw [HC.out]
    obtain ⟨x0, x1, x2, x3⟩ := cRide_box P3
    have HV := Lib.hid hv
    clear hv P3
    go_wp2_with fail
    refine (search_any _ (.inl rfl) (.agg #[.int .i64 t.1, .int .i64 t.2.1, .int .i64 t.2.2.1, .int .i64 t.2.2.2, .int .i64 x]) 100 (metQ t x) _ (by omega) (fun w' i hi => isMetWith_any t x i w' HV.out hi) (fun a b h1 h2 => metQ_mono hx a b h1 h2)).mono ?_
    rintro e w3 ⟨⟨c, rfl, hc, hf⟩, hb3⟩
    have HB3 : Hid (Below w.heap.size w w3) := HB.out.trans (hb3.mono HB.out.size)
    have HF := Lib.hid hf
    clear hb3 HB x0 x1 x2 x3 hf
    have HB := HB3
    by_cases he : c = 100
    · subst he
      have HR := Lib.hid (pfA_none HC.out HF.out)
      go_wp2
      exact bodyPost_ret (v := .tuple #[.int .i64 0, .int .i64 3]) (by simp [results, Try.results28, go_sem]) rfl ⟨by unfold pfV; rw [HR.out], (by repeat (first | exact Below.refl _ _ | exact HB.out | refine Below.drew ?_ | refine Below.drewN' ?_ _ | refine Below.alloc ?_ (by first | omega | (simp; try omega)) _ | refine Below.setCell ?_ (by first | omega | (simp; try omega)) _))⟩
    · have HR := Lib.hid (pfA_some HC.out HF.out he)
      have hne : ((c : Int) == 100) = false := by simp; try omega
      go_wp2
      exact bodyPost_ret (v := .tuple #[.int .i64 ((c : Int) + 1), .int .i64 0]) (by simp [results, Try.results28, go_sem]) rfl ⟨by unfold pfV; rw [HR.out], (by repeat (first | exact Below.refl _ _ | exact HB.out | refine Below.drew ?_ | refine Below.drewN' ?_ _ | refine Below.alloc ?_ (by first | omega | (simp; try omega)) _ | refine Below.setCell ?_ (by first | omega | (simp; try omega)) _))⟩

set_option maxRecDepth 100000 in
set_option maxHeartbeats 2000000 in
theorem specHeaviestFor_any (t : R4) (x : Int) (w : World) : Calls Try.prog 29 #[.agg #[.int .i64 t.1, .int .i64 t.2.1, .int .i64 t.2.2.1, .int .i64 t.2.2.2], .int .i64 x] w fun e w' => e = .returned (hfV t x) ∧ Below w.heap.size w w' := by
  have P0 := Box.alloc w (cRide t) 25
  obtain ⟨p0, p1, p2, p3⟩ := cRide_box P0
  go_enter Try.func29, Try.ntmps29
  go_wp2_with fail
  refine (l03Goal_any _ 0 t x _ p0 p1 p2 p3).mono ?_
  rintro e w1 ⟨rfl, hb1⟩
  have P1 := P0.below hb1
  have HB : Hid (Below w.heap.size w w1) := (show Below w.heap.size w _ from (by repeat (first | exact Below.refl _ _ | exact HB.out | refine Below.drew ?_ | refine Below.drewN' ?_ _ | refine Below.alloc ?_ (by first | omega | (simp; try omega)) _ | refine Below.setCell ?_ (by first | omega | (simp; try omega)) _))).trans (hb1.mono (by simp))
  clear hb1 P0 p0 p1 p2 p3
  rcases code_ways (rideB t) x with ⟨_, HC⟩ | ⟨_, _, HC⟩ | ⟨hv, HX, HC⟩
  · have HR := Lib.hid (hfA_code HC.out (by omega))
    rw [HC.out]
    go_wp2
    exact bodyPost_ret (v := .tuple #[.int .i64 0, .int .i64 1]) (by simp [results, Try.results29, go_sem]) rfl ⟨by unfold hfV; rw [HR.out], (by repeat (first | exact Below.refl _ _ | exact HB.out | refine Below.drew ?_ | refine Below.drewN' ?_ _ | refine Below.alloc ?_ (by first | omega | (simp; try omega)) _ | refine Below.setCell ?_ (by first | omega | (simp; try omega)) _))⟩
  · have HR := Lib.hid (hfA_code HC.out (by omega))
    rw [HC.out]
    go_wp2
    exact bodyPost_ret (v := .tuple #[.int .i64 0, .int .i64 2]) (by simp [results, Try.results29, go_sem]) rfl ⟨by unfold hfV; rw [HR.out], (by repeat (first | exact Below.refl _ _ | exact HB.out | refine Below.drew ?_ | refine Below.drewN' ?_ _ | refine Below.alloc ?_ (by first | omega | (simp; try omega)) _ | refine Below.setCell ?_ (by first | omega | (simp; try omega)) _))⟩
  · have hx := (inB_parts HX.out).1
    rw [HC.out]
    have HV := Lib.hid hv
    have HP1 := Lib.hid P1
    clear hv P1
    go_wp2
    go_loopw [7] (fun p wr => ∃ m : Int, -1 ≤ m ∧ m ≤ 500 ∧ p = .int .i64 m ∧ Below w1.heap.size w1 wr ∧ Hid (∀ s : Nat, m < s → s ≤ 500 → missQ t x s = true)) (fun p _ => (intOf p + 1).toNat)
    case atStart => exact ⟨500, by omega, by omega, rfl, Below.refl _ _, fun s h h2 => absurd h (by omega)⟩
    case round =>
      obtain ⟨m, hm0, hm1, rfl, hbel, HI⟩ := hrel
      by_cases hlt : 0 ≤ m
      · obtain ⟨k, rfl⟩ := Int.eq_ofNat_of_zero_le hlt
        have hv := wW_ok (g := (k : Int)) HV.out (by omega) (by omega)
        obtain ⟨x0, x1, x2, x3⟩ := cRide_box (HP1.out.below hbel)
        have hsz := hbel.size
        have hgw := HP1.out.1
        have HE := Lib.hid hbel
        clear hbel
        have HQ : Hid (missQ t x k = decide (x < ticksR (wW t (k : Int)))) := rfl
        go_wp2_with fail
        refine (l03Ticks_any _ 0 (wW t (k : Int)) _ hv (by simp [go_sem, wW]) (by simp [go_sem, wW]) (by simp [go_sem, wW]) (by simp [go_sem, wW])).mono ?_
        rintro e w2 ⟨rfl, m, hw2⟩
        have HE2 : Hid (Below w1.heap.size w1 w2) := by
          rw [hw2]
          exact Below.drewN' (by repeat (first | exact HE.out | refine Below.alloc ?_ (by first | omega | (simp; try omega)) _ | refine Below.setCell ?_ (by first | omega | (simp; try omega)) _)) _
        clear hw2 HE x0 x1 x2 x3 HP1
        by_cases hd : ticksR (wW t (k : Int)) ≤ x
        · have HF := Lib.hid (firstN_is (missQ t x) (k + 1) 501 0 (by omega) (by omega) (fun s _ h => by
            cases hs : missQ t x s with
            | false => rfl
            | true => have := missQ_mono HV.out s k (by omega) hs; rw [HQ.out, decide_eq_false (by omega)] at this; exact absurd this (by simp)) (fun h => HI.out (k + 1) (by omega) (by omega)))
          have HR := Lib.hid (hfA_some HC.out HF.out (by omega))
          have HB2 : Hid (Below w.heap.size w w2) := HB.out.trans (HE2.out.mono HB.out.size)
          clear HB HE2
          have HB := HB2
          go_wp2
          exact bodyPost_ret (v := .tuple #[.int .i64 (k : Int), .int .i64 0]) (by simp [results, Try.results29, go_sem]) rfl ⟨by unfold hfV; rw [HR.out]; simp, (by repeat (first | exact Below.refl _ _ | exact HB.out | refine Below.drew ?_ | refine Below.drewN' ?_ _ | refine Below.alloc ?_ (by first | omega | (simp; try omega)) _ | refine Below.setCell ?_ (by first | omega | (simp; try omega)) _))⟩
        · have HJ : Hid (∀ s : Nat, (k : Int) - 1 < s → s ≤ 500 → missQ t x s = true) := fun s h h2 => if e : s = k then (by subst e; exact HQ.out.trans (decide_eq_true (by omega))) else HI.out s (by omega) h2
          go_wp2
          go_roundw
          case rel => exact ⟨(k : Int) - 1, by omega, by omega, by go_num, HE2.out, HJ⟩
          case measure => simp [intOf]; try omega
      · have HF := Lib.hid (firstN_is (missQ t x) 0 501 0 (by omega) (by omega) (fun s _ h => absurd h (by omega)) (fun h => HI.out 0 (by omega) (by omega)))
        have HR := Lib.hid (hfA_none HC.out HF.out)
        have HB2 : Hid (Below w.heap.size w wr) := HB.out.trans (hbel.mono HB.out.size)
        clear HB hbel
        have HB := HB2
        go_wp2
        exact bodyPost_ret (v := .tuple #[.int .i64 0, .int .i64 3]) (by simp [results, Try.results29, go_sem]) rfl ⟨by unfold hfV; rw [HR.out], (by repeat (first | exact Below.refl _ _ | exact HB.out | refine Below.drew ?_ | refine Below.drewN' ?_ _ | refine Below.alloc ?_ (by first | omega | (simp; try omega)) _ | refine Below.setCell ?_ (by first | omega | (simp; try omega)) _))⟩

set_option maxRecDepth 100000 in
set_option maxHeartbeats 2000000 in
theorem implHeaviestFor_any (t : R4) (x : Int) (w : World) : Calls Try.prog 30 #[.agg #[.int .i64 t.1, .int .i64 t.2.1, .int .i64 t.2.2.1, .int .i64 t.2.2.2], .int .i64 x] w fun e w' => e = .returned (hfV t x) ∧ Below w.heap.size w w' := by
  have P1 := Box.alloc w (cRide t) 25
  have Q1 := Box.alloc' (w.alloc (.cells (cRide t).toArray 25)) (cRide t) 25 (w.heap.size + 1) (by simp)
  have P2 := P1.below ((Below.refl _ _).alloc (Nat.le_refl _) (.cells (cRide t).toArray 25))
  have Q2 := Box.RR (k := 4) Q1
  clear P1 Q1
  go_enter Try.func30, Try.ntmps30
  go_wp2_with fail
  refine (checkRides_any _ [t] 1 _ _ rfl Q2 (by omega)).mono ?_
  rintro e w1 ⟨rfl, hb1⟩
  have P3 := P2.below hb1
  have HB : Hid (Below w.heap.size w w1) := (show Below w.heap.size w _ from (by repeat (first | exact Below.refl _ _ | exact HB.out | refine Below.drew ?_ | refine Below.drewN' ?_ _ | refine Below.alloc ?_ (by first | omega | (simp; try omega)) _ | refine Below.setCell ?_ (by first | omega | (simp; try omega)) _))).trans (hb1.mono (by simp; omega))
  clear hb1 P2
  rw [codeR_one]
  go_wp2_with fail
  refine (checkRange_any _ x 1000000 _).mono ?_
  rintro e w2 ⟨rfl, rfl⟩
  rcases code_ways (rideB t) x with ⟨_, HC⟩ | ⟨_, _, HC⟩ | ⟨hv, HX, HC⟩
  · have HR := Lib.hid (hfA_code HC.out (by omega))
    rw [HC.out]
    go_wp2
    exact bodyPost_ret (v := .tuple #[.int .i64 0, .int .i64 1]) (by simp [results, Try.results30, go_sem]) rfl ⟨by unfold hfV; rw [HR.out], (by repeat (first | exact Below.refl _ _ | exact HB.out | refine Below.drew ?_ | refine Below.drewN' ?_ _ | refine Below.alloc ?_ (by first | omega | (simp; try omega)) _ | refine Below.setCell ?_ (by first | omega | (simp; try omega)) _))⟩
  · have HR := Lib.hid (hfA_code HC.out (by omega))
    rw [HC.out]
    go_wp2
    exact bodyPost_ret (v := .tuple #[.int .i64 0, .int .i64 2]) (by simp [results, Try.results30, go_sem]) rfl ⟨by unfold hfV; rw [HR.out], (by repeat (first | exact Below.refl _ _ | exact HB.out | refine Below.drew ?_ | refine Below.drewN' ?_ _ | refine Below.alloc ?_ (by first | omega | (simp; try omega)) _ | refine Below.setCell ?_ (by first | omega | (simp; try omega)) _))⟩
  · have hx := (inB_parts HX.out).1
    rw [HC.out]
    obtain ⟨x0, x1, x2, x3⟩ := cRide_box P3
    have HV := Lib.hid hv
    clear hv P3
    go_wp2_with fail
    refine (search_any _ (.inr rfl) (.agg #[.int .i64 t.1, .int .i64 t.2.1, .int .i64 t.2.2.1, .int .i64 t.2.2.2, .int .i64 x]) 501 (missQ t x) _ (by omega) (fun w' i hi => isMissedWith_any t x i w' HV.out hi) (fun a b h1 h2 => missQ_mono HV.out a b h1 h2)).mono ?_
    rintro e w3 ⟨⟨c, rfl, hc, hf⟩, hb3⟩
    have HB3 : Hid (Below w.heap.size w w3) := HB.out.trans (hb3.mono HB.out.size)
    have HF := Lib.hid hf
    clear hb3 HB x0 x1 x2 x3 hf
    have HB := HB3
    by_cases he : c = 0
    · subst he
      have HR := Lib.hid (hfA_none HC.out HF.out)
      go_wp2
      exact bodyPost_ret (v := .tuple #[.int .i64 0, .int .i64 3]) (by simp [results, Try.results30, go_sem]) rfl ⟨by unfold hfV; rw [HR.out], (by repeat (first | exact Below.refl _ _ | exact HB.out | refine Below.drew ?_ | refine Below.drewN' ?_ _ | refine Below.alloc ?_ (by first | omega | (simp; try omega)) _ | refine Below.setCell ?_ (by first | omega | (simp; try omega)) _))⟩
    · have HR := Lib.hid (hfA_some HC.out HF.out he)
      have hne : ((c : Int) == 0) = false := by simp; try omega
      go_wp2
      exact bodyPost_ret (v := .tuple #[.int .i64 ((c : Int) - 1), .int .i64 0]) (by simp [results, Try.results30, go_sem]) rfl ⟨by unfold hfV; rw [HR.out], (by repeat (first | exact Below.refl _ _ | exact HB.out | refine Below.drew ?_ | refine Below.drewN' ?_ _ | refine Below.alloc ?_ (by first | omega | (simp; try omega)) _ | refine Below.setCell ?_ (by first | omega | (simp; try omega)) _))⟩
end Go.Proofs.Ytcehkkamepdkoaa
