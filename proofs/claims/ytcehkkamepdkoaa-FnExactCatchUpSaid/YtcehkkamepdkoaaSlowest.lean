/-
  The walks of isLess and SlowestRide, the model's and the program's.
-/
import Derived.Test.YtcehkkamepdkoaaTicksOfWay
namespace Go.Proofs.Ytcehkkamepdkoaa
open Go.RowKit

def lessR (a b : R4) : Bool := decide (numR a * denR b < numR b * denR a)
theorem sp_parts {t : R4} (h : rideB t = true) : ∃ g, 0 < g ∧ numR t = g * (spR t).1 ∧ denR t = g * (spR t).2 := by
  obtain ⟨h1, h2, h3, h4⟩ := ride_bounds h
  have hg := gcdI_pos (numR t) (denR t) (by omega)
  obtain ⟨p, hp⟩ := gcdI_dvd_left (numR t) (denR t)
  obtain ⟨q, hq⟩ := gcdI_dvd_right (numR t) (denR t)
  have e1 : (spR t).1 = p := by unfold spR; simp only; conv => { lhs; lhs; rw [hp] }; exact Int.mul_ediv_cancel_left _ (by omega)
  have e2 : (spR t).2 = q := by unfold spR; simp only; conv => { lhs; lhs; rw [hq] }; exact Int.mul_ediv_cancel_left _ (by omega)
  exact ⟨gcdI (numR t) (denR t), hg, by rw [e1]; exact hp, by rw [e2]; exact hq⟩
theorem lt_scale {c a b : Int} (hc : 0 < c) : c * a < c * b ↔ a < b :=
  ⟨fun h => Int.lt_of_mul_lt_mul_left h (by omega), fun h => Int.mul_lt_mul_of_pos_left h hc⟩
theorem less_low {a b : R4} (ha : rideB a = true) (hb : rideB b = true) : decide ((spR a).1 * (spR b).2 < (spR b).1 * (spR a).2) = lessR a b := by
  obtain ⟨g, hg, e1, e2⟩ := sp_parts ha
  obtain ⟨k, hk, e3, e4⟩ := sp_parts hb
  unfold lessR
  rw [e1, e2, e3, e4]
  generalize (spR a).1 = p, (spR a).2 = q, (spR b).1 = r, (spR b).2 = s
  refine decide_eq_decide.2 ?_
  have i1 : g * p * (k * s) = (g * k) * (p * s) := by rw [Int.mul_assoc, Int.mul_assoc, Int.mul_left_comm p k s]
  have i2 : k * r * (g * q) = (g * k) * (r * q) := by rw [Int.mul_comm g k, Int.mul_assoc, Int.mul_assoc, Int.mul_left_comm r g q]
  rw [i1, i2]
  exact (lt_scale (Int.mul_pos hg hk)).symm
def gR (ts : List R4) (k : Nat) : R4 := ts.getD k (0, 0, 0, 0)
theorem gR_at {ts : List R4} {k : Nat} (h : k < ts.length) : ts[k] = gR ts k := by unfold gR; simp [h]
/-- The slowest of the first k rides. -/
def slowTo (ts : List R4) : Nat → Nat
  | 0 => 0
  | k + 1 => if lessR (gR ts k) (gR ts (slowTo ts k)) then k else slowTo ts k
theorem slowTo_lt (ts : List R4) : ∀ k, slowTo ts k ≤ k - 1
  | 0 => by simp [slowTo]
  | k + 1 => by
    have ih := slowTo_lt ts k
    unfold slowTo
    split <;> omega
theorem slowTo_yes {ts : List R4} {k : Nat} (h : lessR (gR ts k) (gR ts (slowTo ts k)) = true) : slowTo ts (k + 1) = k := by
  conv => lhs; unfold slowTo
  rw [if_pos h]
theorem slowTo_no {ts : List R4} {k : Nat} (h : lessR (gR ts k) (gR ts (slowTo ts k)) = false) : slowTo ts (k + 1) = slowTo ts k := by
  conv => lhs; unfold slowTo
  rw [if_neg (by rw [h]; exact Bool.false_ne_true)]
theorem lessR_self (t : R4) : lessR t t = false := by unfold lessR; exact decide_eq_false (by omega)
theorem slowTo_one (ts : List R4) : slowTo ts 1 = 0 := by
  have h : lessR (gR ts 0) (gR ts (slowTo ts 0)) = false := lessR_self _
  rw [slowTo_no h]; rfl
def slowA (ts : List R4) : Int × Int := if listB ts then (if ts.length = 0 then (0, 3) else ((slowTo ts ts.length : Nat), 0)) else (0, 1)
def slowV (ts : List R4) : Value := .tuple #[.int .i64 (slowA ts).1, .int .i64 (slowA ts).2]
theorem slowV_bad {ts : List R4} (h : listB ts = false) : slowV ts = .tuple #[.int .i64 0, .int .i64 1] := by unfold slowV slowA; rw [h]; rfl
theorem slowV_none {ts : List R4} (h : listB ts = true) (h0 : ts.length = 0) : slowV ts = .tuple #[.int .i64 0, .int .i64 3] := by unfold slowV slowA; rw [h, h0]; rfl
theorem slowV_good {ts : List R4} (h : listB ts = true) (h0 : ¬ ts.length = 0) : slowV ts = .tuple #[.int .i64 (slowTo ts ts.length : Nat), .int .i64 0] := by unfold slowV slowA; rw [h]; simp [h0]

theorem l03Num_d (pb po : Nat) (t : R4) (w : World) (n : Nat) (hv : rideB t = true) (p2 : w.cell? ⟨pb, po + 2, none⟩ = some (.int .i64 t.2.2.1)) : Calls Try.prog 51 #[.pointer (some ⟨pb, po, none⟩)] (w.drewN n) fun e w' => e = .returned (.int .i64 (numR t)) ∧ ∃ m, w' = (w.drewN n).drewN m := l03Num_any pb po t _ hv p2
theorem l03Den_d (pb po : Nat) (t : R4) (w : World) (n : Nat) (hv : rideB t = true) (p1 : w.cell? ⟨pb, po + 1, none⟩ = some (.int .i64 t.2.1)) (p3 : w.cell? ⟨pb, po + 3, none⟩ = some (.int .i64 t.2.2.2)) : Calls Try.prog 52 #[.pointer (some ⟨pb, po, none⟩)] (w.drewN n) fun e w' => e = .returned (.int .i64 (denR t)) ∧ ∃ m, w' = (w.drewN n).drewN m := l03Den_any pb po t _ hv p1 p3
theorem isLess_any (p q r s : Int) (w : World) (h1 : 0 ≤ p * s) (h2 : p * s ≤ 1152921504606846976) (h3 : 0 ≤ r * q) (h4 : r * q ≤ 1152921504606846976) : Calls Try.prog 68 #[.agg #[.int .i64 p, .int .i64 q], .agg #[.int .i64 r, .int .i64 s]] w fun e w' => e = .returned (.bool (decide (p * s < r * q))) ∧ Below w.heap.size w w' := by
  by_cases h : p * s < r * q
  all_goals
    go_enter Try.func68, Try.ntmps68
    go_wp2
    go_ret
    exact ⟨ret_bool (by simp [h]), (by repeat (first | exact Below.refl _ _ | exact HB.out | refine Below.drew ?_ | refine Below.drewN' ?_ _ | refine Below.alloc ?_ (by first | omega | (simp; try omega)) _ | refine Below.setCell ?_ (by first | omega | (simp; try omega)) _))⟩

set_option maxRecDepth 100000 in
set_option maxHeartbeats 2000000 in
theorem specSlowestRide_any (a : Option Addr) (ts : List R4) (n ca : Nat) (w : World) (hn : Hid (ts.length = n)) (ha : RR 4 cRide w a ts) (hmax : n ≤ 1048576) :
    Calls Try.prog 35 #[.slice a n ca] w fun e w' => e = .returned (slowV ts) ∧ Below w.heap.size w w' := by
  have HA := Lib.hid ha
  clear ha
  go_enter Try.func35, Try.ntmps35
  go_wp2_with fail
  refine (l03List_any _ ts n _ _ hn HA.out hmax).mono ?_
  rintro e w1 ⟨rfl, hb1⟩
  have HB := Lib.hid hb1
  cases hv : listB ts with
  | false =>
    have HR := Lib.hid (slowV_bad hv)
    go_wp2
    refine bodyPost_ret (v := .tuple #[.int .i64 0, .int .i64 1]) (by simp [results, Try.results35, go_sem]) rfl ⟨by rw [HR.out], (by repeat (first | exact Below.refl _ _ | exact HB.out | refine Below.drew ?_ | refine Below.drewN' ?_ _ | refine Below.alloc ?_ (by first | omega | (simp; try omega)) _ | refine Below.setCell ?_ (by first | omega | (simp; try omega)) _))⟩
  | true =>
    by_cases hz : n = 0
    · have HR := Lib.hid (slowV_none hv (by rw [hn.out]; exact hz))
      subst hz
      go_wp2
      refine bodyPost_ret (v := .tuple #[.int .i64 0, .int .i64 3]) (by simp [results, Try.results35, go_sem]) rfl ⟨by rw [HR.out], (by repeat (first | exact Below.refl _ _ | exact HB.out | refine Below.drew ?_ | refine Below.drewN' ?_ _ | refine Below.alloc ?_ (by first | omega | (simp; try omega)) _ | refine Below.setCell ?_ (by first | omega | (simp; try omega)) _))⟩
    · have HR := Lib.hid (slowV_good hv (by rw [hn.out]; exact hz))
      obtain ⟨h8, hall⟩ := listB_parts hv
      have hn8 : n ≤ 8 := by rw [← hn.out]; exact h8
      have hnz : ((n : Int) == 0) = false := by simp; omega
      have HALL := Lib.hid hall
      obtain ⟨b, off, rfl, hb, hc⟩ := (HA.out.below hb1).addr (by rw [hn.out]; omega)
      have HC := Lib.hid hc
      clear hc HA hb1 hall h8 hv
      go_wp2
      go_loopw [4, 5] (fun s i wr => ∃ (k m : Nat), 1 ≤ k ∧ k ≤ n ∧ i = .int .i64 k ∧ s = .int .i64 (slowTo ts k : Nat) ∧ wr = w1.drewN m) (fun _ i _ => n - (intOf i).toNat)
      case atStart => exact ⟨1, 0, by omega, by omega, rfl, by rw [slowTo_one]; rfl, rfl⟩
      case round =>
        obtain ⟨k, m, hk1, hk, rfl, rfl, hwr⟩ := hrel
        have hbel : Below w1.heap.size w1 wr := by rw [hwr]; exact Below.drewN' (Below.refl _ _) _
        have HW := Lib.hid hwr
        clear hwr
        by_cases hlt : k < n
        · have hka : k < ts.length := by rw [hn.out]; exact hlt
          have hs := slowTo_lt ts k
          have HYES := Lib.hid (@slowTo_yes ts k)
          have HNO := Lib.hid (@slowTo_no ts k)
          generalize hS : slowTo ts k = s at hs HYES HNO
          have hsa : s < ts.length := by omega
          have HL : Hid (s < k) := by unfold Hid; omega
          obtain ⟨x0, x1, x2, x3⟩ := cRide_at HC.out k hka
          obtain ⟨y0, y1, y2, y3⟩ := cRide_at HC.out s hsa
          have ht := HALL.out k hka
          have hu := HALL.out s hsa
          rw [gR_at hka] at x0 x1 x2 x3 ht
          rw [gR_at hsa] at y0 y1 y2 y3 hu
          generalize gR ts k = t at x0 x1 x2 x3 ht HYES HNO
          generalize gR ts s = u at y0 y1 y2 y3 hu HYES HNO
          rw [← hbel.cell (p := ⟨_, _, none⟩) hb] at x0 x1 x2 x3 y0 y1 y2 y3
          obtain ⟨t1, t2, t3, t4⟩ := ride_bounds ht
          obtain ⟨u1, u2, u3, u4⟩ := ride_bounds hu
          obtain ⟨m1, m2⟩ := mul_le_of (a := numR t) (b := denR u) (A := 10000) (B := 1000) (by omega) (by omega) (by omega) (by omega)
          obtain ⟨m3, m4⟩ := mul_le_of (a := numR u) (b := denR t) (A := 10000) (B := 1000) (by omega) (by omega) (by omega) (by omega)
          have hk0 : (0 : Int) ≤ (k : Int) := by omega
          have hkn : (k : Int) < (n : Int) := by omega
          have hs0 : (0 : Int) ≤ (s : Int) := by omega
          have hsn : (s : Int) < (n : Int) := by omega
          clear hbel hS
          have HD : Hid (lessR t u = decide (numR t * denR u < numR u * denR t)) := rfl
          by_cases hd : numR t * denR u < numR u * denR t
          · have HS := Lib.hid (HYES.out (HD.out.trans (decide_eq_true hd)))
            go_wp2
            go_quiet (first | (go_at_call_of 51 k; refine Calls.quiet_of (l03Num_d b (off + k * 4) t wr _ ht x2)) | (go_at_call_of 51 s; refine Calls.quiet_of (l03Num_d b (off + s * 4) u wr _ hu y2)) | (go_at_call_of 52 k; refine Calls.quiet_of (l03Den_d b (off + k * 4) t wr _ ht x1 x3)) | (go_at_call_of 52 s; refine Calls.quiet_of (l03Den_d b (off + s * 4) u wr _ hu y1 y3)))
            go_wp2
            go_roundw
            case rel => exact ⟨k + 1, m + nq, by omega, by omega, by go_num, by rw [HS.out], by rw [HW.out]; simp [World.drewN, Nat.add_assoc]⟩
            case measure => simp [intOf]; omega
          · have HS := Lib.hid (HNO.out (HD.out.trans (decide_eq_false hd)))
            go_wp2
            go_quiet (first | (go_at_call_of 51 k; refine Calls.quiet_of (l03Num_d b (off + k * 4) t wr _ ht x2)) | (go_at_call_of 51 s; refine Calls.quiet_of (l03Num_d b (off + s * 4) u wr _ hu y2)) | (go_at_call_of 52 k; refine Calls.quiet_of (l03Den_d b (off + k * 4) t wr _ ht x1 x3)) | (go_at_call_of 52 s; refine Calls.quiet_of (l03Den_d b (off + s * 4) u wr _ hu y1 y3)))
            go_wp2
            go_roundw
            case rel => exact ⟨k + 1, m + nq, by omega, by omega, by go_num, by rw [HS.out], by rw [HW.out]; simp [World.drewN, Nat.add_assoc]⟩
            case measure => simp [intOf]; omega
        · have e : k = n := by omega
          subst e
          have HF : Hid (Below w.heap.size w wr) := HB.out.trans (hbel.mono HB.out.size)
          clear hbel
          have HN := Lib.hid (show slowTo ts ts.length = slowTo ts k by rw [hn.out])
          go_wp2
          refine bodyPost_ret (v := .tuple #[.int .i64 (slowTo ts k : Nat), .int .i64 0]) (by simp [results, Try.results35, go_sem]) rfl ⟨by rw [HR.out, HN.out], HF.out⟩

set_option maxRecDepth 100000 in
set_option maxHeartbeats 4000000 in
theorem implSlowestRide_any (a : Option Addr) (ts : List R4) (n ca : Nat) (w : World) (hn : Hid (ts.length = n)) (ha : RR 4 cRide w a ts) (hmax : n ≤ 1048576) :
    Calls Try.prog 36 #[.slice a n ca] w fun e w' => e = .returned (slowV ts) ∧ Below w.heap.size w w' := by
  have HA := Lib.hid ha
  clear ha
  go_enter Try.func36, Try.ntmps36
  go_wp2_with fail
  refine (checkRideList_any _ ts n _ _ hn HA.out hmax).mono ?_
  rintro e w1 ⟨rfl, hb1⟩
  have HB := Lib.hid hb1
  cases hv : listB ts with
  | false =>
    have HR := Lib.hid (slowV_bad hv)
    have hok : okC false = 1 := rfl
    rw [hok]
    go_wp2
    refine bodyPost_ret (v := .tuple #[.int .i64 0, .int .i64 1]) (by simp [results, Try.results36, go_sem]) rfl ⟨by rw [HR.out], (by repeat (first | exact Below.refl _ _ | exact HB.out | refine Below.drew ?_ | refine Below.drewN' ?_ _ | refine Below.alloc ?_ (by first | omega | (simp; try omega)) _ | refine Below.setCell ?_ (by first | omega | (simp; try omega)) _))⟩
  | true =>
    have hok : okC true = 0 := rfl
    rw [hok]
    by_cases hz : n = 0
    · have HR := Lib.hid (slowV_none hv (by rw [hn.out]; exact hz))
      subst hz
      go_wp2
      refine bodyPost_ret (v := .tuple #[.int .i64 0, .int .i64 3]) (by simp [results, Try.results36, go_sem]) rfl ⟨by rw [HR.out], (by repeat (first | exact Below.refl _ _ | exact HB.out | refine Below.drew ?_ | refine Below.drewN' ?_ _ | refine Below.alloc ?_ (by first | omega | (simp; try omega)) _ | refine Below.setCell ?_ (by first | omega | (simp; try omega)) _))⟩
    · have HR := Lib.hid (slowV_good hv (by rw [hn.out]; exact hz))
      obtain ⟨h8, hall⟩ := listB_parts hv
      have hn8 : n ≤ 8 := by rw [← hn.out]; exact h8
      have hnz : ((n : Int) == 0) = false := by simp; omega
      have HALL := Lib.hid hall
      obtain ⟨b, off, rfl, hb, hc⟩ := (HA.out.below hb1).addr (by rw [hn.out]; omega)
      have HC := Lib.hid hc
      clear hc HA hb1 hall h8 hv
      go_wp2
      go_loopw [5, 18] (fun s i wr => ∃ k : Nat, k ≤ n ∧ i = .int .i64 k ∧ s = .int .i64 (slowTo ts k : Nat) ∧ Below w1.heap.size w1 wr) (fun _ i _ => n - (intOf i).toNat)
      case atStart => exact ⟨0, by omega, rfl, rfl, Below.refl _ _⟩
      case round =>
        obtain ⟨k, hk, rfl, rfl, hbel⟩ := hrel
        by_cases hlt : k < n
        · have hka : k < ts.length := by rw [hn.out]; exact hlt
          have hs := slowTo_lt ts k
          have HYES := Lib.hid (@slowTo_yes ts k)
          have HNO := Lib.hid (@slowTo_no ts k)
          generalize hS : slowTo ts k = s at hs HYES HNO
          have hsa : s < ts.length := by omega
          obtain ⟨x0, x1, x2, x3⟩ := cRide_at HC.out k hka
          obtain ⟨y0, y1, y2, y3⟩ := cRide_at HC.out s hsa
          have ht := HALL.out k hka
          have hu := HALL.out s hsa
          rw [gR_at hka] at x0 x1 x2 x3 ht
          rw [gR_at hsa] at y0 y1 y2 y3 hu
          generalize gR ts k = t at x0 x1 x2 x3 ht HYES HNO
          generalize gR ts s = u at y0 y1 y2 y3 hu HYES HNO
          rw [← hbel.cell (p := ⟨_, _, none⟩) hb] at x0 x1 x2 x3 y0 y1 y2 y3
          obtain ⟨t1, t2, t3, t4⟩ := sp_bounds ht
          obtain ⟨u1, u2, u3, u4⟩ := sp_bounds hu
          obtain ⟨m1, m2⟩ := mul_le_of (a := (spR t).1) (b := (spR u).2) (A := 10000) (B := 1000) (by omega) (by omega) (by omega) (by omega)
          obtain ⟨m3, m4⟩ := mul_le_of (a := (spR u).1) (b := (spR t).2) (A := 10000) (B := 1000) (by omega) (by omega) (by omega) (by omega)
          have HD := Lib.hid (less_low ht hu)
          have hk0 : (0 : Int) ≤ (k : Int) := by omega
          have hkn : (k : Int) < (n : Int) := by omega
          have hs0 : (0 : Int) ≤ (s : Int) := by omega
          have hsn : (s : Int) < (n : Int) := by omega
          have hsz := hbel.size
          have hb' : b < wr.heap.size := by omega
          have hb1' : b < (wr.alloc (.cells #[.int .i64 t.1, .int .i64 t.2.1, .int .i64 t.2.2.1, .int .i64 t.2.2.2] 25)).heap.size := by simp; omega
          have HBW := Lib.hid hbel
          clear hbel hS
          obtain ⟨z0, z1, z2, z3⟩ := cRide_box (Box.alloc wr (cRide t) 25)
          have HE : Hid (Below w1.heap.size w1 (wr.alloc (.cells #[.int .i64 t.1, .int .i64 t.2.1, .int .i64 t.2.2.1, .int .i64 t.2.2.2] 25))) := HBW.out.alloc (by omega) _
          go_wp2_with fail
          have ea : ∀ o, (wr.alloc (.cells #[.int .i64 t.1, .int .i64 t.2.1, .int .i64 t.2.2.1, .int .i64 t.2.2.2] 25)).cell? ⟨b, o, none⟩ = wr.cell? ⟨b, o, none⟩ := fun o => ((Below.refl wr.heap.size wr).alloc (Nat.le_refl _) _).cell (p := ⟨b, o, none⟩) hb'
          have v0 := (ea _).trans y0
          have v1 := (ea _).trans y1
          have v2 := (ea _).trans y2
          have v3 := (ea _).trans y3
          have HK : Hid (∀ w', Below (wr.alloc (.cells #[.int .i64 t.1, .int .i64 t.2.1, .int .i64 t.2.2.1, .int .i64 t.2.2.2] 25)).heap.size (wr.alloc (.cells #[.int .i64 t.1, .int .i64 t.2.1, .int .i64 t.2.2.1, .int .i64 t.2.2.2] 25)) w' → w'.cell? ⟨wr.heap.size, 0, none⟩ = some (.int .i64 t.1) ∧ w'.cell? ⟨wr.heap.size, 1, none⟩ = some (.int .i64 t.2.1) ∧ w'.cell? ⟨wr.heap.size, 2, none⟩ = some (.int .i64 t.2.2.1) ∧ w'.cell? ⟨wr.heap.size, 3, none⟩ = some (.int .i64 t.2.2.2) ∧ w'.cell? ⟨b, off + s * 4, none⟩ = some (.int .i64 u.1) ∧ w'.cell? ⟨b, off + s * 4 + 1, none⟩ = some (.int .i64 u.2.1) ∧ w'.cell? ⟨b, off + s * 4 + 2, none⟩ = some (.int .i64 u.2.2.1) ∧ w'.cell? ⟨b, off + s * 4 + 3, none⟩ = some (.int .i64 u.2.2.2)) := fun w' hh => ⟨(hh.cell (p := ⟨_, _, none⟩) (by simp)).trans z0, (hh.cell (p := ⟨_, _, none⟩) (by simp)).trans z1, (hh.cell (p := ⟨_, _, none⟩) (by simp)).trans z2, (hh.cell (p := ⟨_, _, none⟩) (by simp)).trans z3, (hh.cell (p := ⟨_, _, none⟩) hb1').trans v0, (hh.cell (p := ⟨_, _, none⟩) hb1').trans v1, (hh.cell (p := ⟨_, _, none⟩) hb1').trans v2, (hh.cell (p := ⟨_, _, none⟩) hb1').trans v3⟩
          have d := (Below.refl (wr.alloc (.cells #[.int .i64 t.1, .int .i64 t.2.1, .int .i64 t.2.2.1, .int .i64 t.2.2.2] 25)).heap.size (wr.alloc (.cells #[.int .i64 t.1, .int .i64 t.2.1, .int .i64 t.2.2.1, .int .i64 t.2.2.2] 25))).drew
          clear ea z0 z1 z2 z3 v0 v1 v2 v3 y0 y1 y2 y3 x0 x1 x2 x3
          generalize hq : (wr.alloc (.cells #[.int .i64 t.1, .int .i64 t.2.1, .int .i64 t.2.2.1, .int .i64 t.2.2.2] 25)) = wa at HK d HE hb1' ⊢
          have e3 := wr.heap.size
          go_region_held3 (fun w' => w'.cell? ⟨wr.heap.size, 0, none⟩ = some (.int .i64 t.1) ∧ w'.cell? ⟨wr.heap.size, 1, none⟩ = some (.int .i64 t.2.1) ∧ w'.cell? ⟨wr.heap.size, 2, none⟩ = some (.int .i64 t.2.2.1) ∧ w'.cell? ⟨wr.heap.size, 3, none⟩ = some (.int .i64 t.2.2.2) ∧ w'.cell? ⟨b, off + s * 4, none⟩ = some (.int .i64 u.1) ∧ w'.cell? ⟨b, off + s * 4 + 1, none⟩ = some (.int .i64 u.2.1) ∧ w'.cell? ⟨b, off + s * 4 + 2, none⟩ = some (.int .i64 u.2.2.1) ∧ w'.cell? ⟨b, off + s * 4 + 3, none⟩ = some (.int .i64 u.2.2.2))
            (first | exact HK.out _ (Below.refl _ _) | exact HK.out _ d | exact HK.out _ (d.trans hb1) | exact HK.out _ (d.trans hb2) | exact HK.out _ (d.trans (hb1.trans (hb2.mono hb1.size))) | exact HK.out _ (d.trans (hb2.trans (hb1.mono hb2.size))) | exact HK.out _ (d.trans (hb1.trans ((hb2.mono hb1.size).trans (hb3.mono (Nat.le_trans hb1.size hb2.size))))) | exact HK.out _ (d.trans (hb2.trans ((hb1.mono hb2.size).trans (hb3.mono (Nat.le_trans hb2.size hb1.size))))))
            (first | (go_at_call_of 54 t; refine (speed_any t _ ht).mono ?_; rintro e w2 ⟨rfl, hb1⟩) | (go_at_call_of 54 u; refine (speed_any u _ hu).mono ?_; rintro e w3 ⟨rfl, hb2⟩) | (go_at_call 68; refine (isLess_any _ _ _ _ _ m1 (by omega) m3 (by omega)).mono ?_; rintro e w4 ⟨rfl, hb3⟩))
          have HBE : Hid (Below w1.heap.size w1 w4) := HE.out.trans ((d.trans (hb1.trans ((hb2.mono hb1.size).trans (hb3.mono (Nat.le_trans hb1.size hb2.size))))).mono HE.out.size)
          clear hb1 hb2 hb3 d HK HE hb1'
          rw [HD.out]
          cases hd : lessR t u with
          | true =>
            have HS := Lib.hid (HYES.out hd)
            go_wp2
            go_roundw
            case rel => exact ⟨k + 1, by omega, by go_num, by rw [HS.out], HBE.out⟩
            case measure => simp [intOf]; omega
          | false =>
            have HS := Lib.hid (HNO.out hd)
            go_wp2
            go_roundw
            case rel => exact ⟨k + 1, by omega, by go_num, by rw [HS.out], HBE.out⟩
            case measure => simp [intOf]; omega
        · have e : k = n := by omega
          subst e
          have HF : Hid (Below w.heap.size w wr) := HB.out.trans (hbel.mono HB.out.size)
          clear hbel
          have HN := Lib.hid (show slowTo ts ts.length = slowTo ts k by rw [hn.out])
          go_wp2
          refine bodyPost_ret (v := .tuple #[.int .i64 (slowTo ts k : Nat), .int .i64 0]) (by simp [results, Try.results36, go_sem]) rfl ⟨by rw [HR.out, HN.out], HF.out⟩
end Go.Proofs.Ytcehkkamepdkoaa
