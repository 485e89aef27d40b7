/-
  The walks of checkRange, times and PlaceAfter, the model's and the program's.
-/
import Derived.Test.YtcehkkamepdkoaaSlowest
import Derived.Deep.RegionWith
namespace Go.Proofs.Ytcehkkamepdkoaa
open Go.RowKit

def lowI (a b : Int) : Int × Int := (a / gcdI a b, b / gcdI a b)
theorem gcdI_scale (g a b : Int) (hg : 0 < g) : gcdI (g * a) (g * b) = g * gcdI a b := by
  unfold gcdI
  rw [Int.gcd_mul_left, Int.natCast_mul]
  have : (g.natAbs : Int) = g := by omega
  rw [this]
theorem low_scale (g a b : Int) (hg : 0 < g) : lowI (g * a) (g * b) = lowI a b := by
  unfold lowI
  rw [gcdI_scale g a b hg, Int.mul_ediv_mul_of_pos _ _ hg, Int.mul_ediv_mul_of_pos _ _ hg]
theorem low_times {t : R4} (h : rideB t = true) (r : Int) : lowI ((spR t).1 * r) (spR t).2 = lowI (r * numR t) (denR t) := by
  obtain ⟨g, hg, e1, e2⟩ := sp_parts h
  rw [e1, e2, show r * (g * (spR t).1) = g * ((spR t).1 * r) by rw [Int.mul_left_comm, Int.mul_comm r], low_scale g _ _ hg]
/-- The code of a number beside something that should be valid. -/
def rangeC (c x m : Int) : Int := if c = 0 then (if inB x 0 m then 0 else 2) else c
theorem rangeC_bad {c x m : Int} (h : ¬ c = 0) : rangeC c x m = c := if_neg h
theorem rangeC_in {x m : Int} (h : inB x 0 m = true) : rangeC 0 x m = 0 := by unfold rangeC; rw [h]; rfl
theorem rangeC_out {x m : Int} (h : inB x 0 m = false) : rangeC 0 x m = 2 := by unfold rangeC; rw [h]; rfl
def plF : List R4 → Nat → Int → Int × (Int × Int) × Int
  | [], _, _ => (0, (0, 0), 3)
  | t :: l, k, r => if r < ticksR t then ((k : Int), lowI (r * numR t) (denR t), 0) else plF l (k + 1) (r - ticksR t)
theorem plF_here {ts : List R4} {k : Nat} {r : Int} (h : k < ts.length) (hr : r < ticksR ts[k]) : plF (ts.drop k) k r = ((k : Int), lowI (r * numR ts[k]) (denR ts[k]), 0) := by
  rw [List.drop_eq_getElem_cons h]
  show (if _ then _ else _) = _
  rw [if_pos hr]
theorem plF_next {ts : List R4} {k : Nat} {r : Int} (h : k < ts.length) (hr : ¬ r < ticksR ts[k]) : plF (ts.drop k) k r = plF (ts.drop (k + 1)) (k + 1) (r - ticksR ts[k]) := by
  rw [List.drop_eq_getElem_cons h]
  show (if _ then _ else _) = _
  rw [if_neg hr]
theorem plF_end {ts : List R4} {k : Nat} {r : Int} (h : ts.length ≤ k) : plF (ts.drop k) k r = (0, (0, 0), 3) := by
  rw [List.drop_eq_nil_of_le h]; rfl
def placeA (ts : List R4) (x : Int) : Int × (Int × Int) × Int := if rangeC (okC (listB ts)) x 1000000 = 0 then plF ts 0 x else (0, (0, 0), rangeC (okC (listB ts)) x 1000000)
def placeV (ts : List R4) (x : Int) : Value := .tuple #[.int .i64 (placeA ts x).1, .agg #[.int .i64 (placeA ts x).2.1.1, .int .i64 (placeA ts x).2.1.2], .int .i64 (placeA ts x).2.2]
theorem placeA_bad {ts : List R4} {x : Int} (h : listB ts = false) : placeA ts x = (0, (0, 0), 1) := by unfold placeA; rw [h]; rfl
theorem placeA_out {ts : List R4} {x : Int} (h : listB ts = true) (hx : inB x 0 1000000 = false) : placeA ts x = (0, (0, 0), 2) := by
  unfold placeA
  rw [h, show okC true = 0 from rfl, rangeC_out hx]; rfl
theorem placeA_in {ts : List R4} {x : Int} (h : listB ts = true) (hx : inB x 0 1000000 = true) : placeA ts x = plF (ts.drop 0) 0 x := by
  unfold placeA
  rw [h, show okC true = 0 from rfl, rangeC_in hx]; rfl
theorem inB_parts {x lo hi : Int} (h : inB x lo hi = true) : lo ≤ x ∧ x ≤ hi := by unfold inB at h; simpa using h

theorem checkRange_any (c x m : Int) (w : World) : Calls Try.prog 62 #[.int .i64 c, .int .i64 x, .int .i64 m] w fun e w' => e = .returned (.int .i64 (rangeC c x m)) ∧ w = w' := by
  by_cases hc : c = 0
  · subst hc
    cases hx : inB x 0 m with
    | true =>
      have HR := Lib.hid (rangeC_in hx)
      go_enter Try.func62, Try.ntmps62
      go_wp2_with (go_at_call 49; refine (isWithin_any _ _ _ _).mono ?_; rintro e w' ⟨rfl, rfl⟩)
      go_ret
      exact ⟨ret_int HR.out.symm, rfl⟩
    | false =>
      have HR := Lib.hid (rangeC_out hx)
      go_enter Try.func62, Try.ntmps62
      go_wp2_with (go_at_call 49; refine (isWithin_any _ _ _ _).mono ?_; rintro e w' ⟨rfl, rfl⟩)
      go_ret
      exact ⟨ret_int HR.out.symm, rfl⟩
  · have HR := Lib.hid (rangeC_bad (x := x) (m := m) hc)
    have hcb : (c == 0) = false := by simp [hc]
    go_enter Try.func62, Try.ntmps62
    go_wp2_with (go_at_call 49; refine (isWithin_any _ _ _ _).mono ?_; rintro e w' ⟨rfl, rfl⟩)
    go_ret
    exact ⟨ret_int HR.out.symm, rfl⟩

set_option maxHeartbeats 1000000 in
theorem times_any (p q r : Int) (w : World) (h1 : 0 ≤ p * r) (h2 : p * r ≤ 1152921504606846976) (h3 : 1 ≤ q) (h4 : q ≤ 1152921504606846976) : Calls Try.prog 67 #[.agg #[.int .i64 p, .int .i64 q], .int .i64 r] w fun e w' => e = .returned (.agg #[.int .i64 (lowI (p * r) q).1, .int .i64 (lowI (p * r) q).2]) ∧ Below w.heap.size w w' := by
  go_enter Try.func67, Try.ntmps67
  go_wp2_with fail
  refine (lowest_any (p * r) q _ h1 (by omega) (by omega) (by omega)).mono ?_
  rintro e w1 ⟨rfl, hb1⟩
  have G1 : w1.heap[w.heap.size + 1]? = some (.cells #[.int .i64 0, .int .i64 0] 29 (0, 0)) := (hb1.block _ (by simp)).trans (heap_alloc_at _ _ _ (by simp))
  have HB : Hid (Below w.heap.size w w1) := (show Below w.heap.size w _ from (by repeat (first | exact Below.refl _ _ | exact HB.out | refine Below.drew ?_ | refine Below.drewN' ?_ _ | refine Below.alloc ?_ (by first | omega | (simp; try omega)) _ | refine Below.setCell ?_ (by first | omega | (simp; try omega)) _))).trans (hb1.mono (by simp; omega))
  obtain ⟨⟨c0, c1⟩, f0, f1, hlt⟩ := blk_cells G1
  clear hb1 G1
  go_wp2
  exact bodyPost_ret (v := .agg #[.int .i64 (p * r / gcdI (p * r) q), .int .i64 (q / gcdI (p * r) q)]) (by simp [results, Try.results67, go_sem, c0, c1]) rfl ⟨rfl, (by repeat (first | exact Below.refl _ _ | exact HB.out | refine Below.drew ?_ | refine Below.drewN' ?_ _ | refine Below.alloc ?_ (by first | omega | (simp; try omega)) _ | refine Below.setCell ?_ (by first | omega | (simp; try omega)) _))⟩

set_option maxRecDepth 100000 in
set_option maxHeartbeats 4000000 in
theorem specPlaceAfter_any (a : Option Addr) (ts : List R4) (x : Int) (_wx : (Lit.int .i64 x).wf = true) (n ca : Nat) (w : World) (hn : Hid (ts.length = n)) (ha : RR 4 cRide w a ts) (hmax : n ≤ 1048576) :
    Calls Try.prog 31 #[.slice a n ca, .int .i64 x] w fun e w' => e = .returned (placeV ts x) ∧ Below w.heap.size w w' := by
  have HA : Hid (RR 4 cRide (w.alloc (.cells #[.int .i64 0, .int .i64 0] 29)) a ts) := ha.below ((Below.refl _ _).alloc (Nat.le_refl _) _)
  clear ha _wx
  go_enter Try.func31, Try.ntmps31
  go_wp2_with fail
  refine (l03List_any _ ts n _ _ hn HA.out hmax).mono ?_
  rintro e w1 ⟨rfl, hb1⟩
  have G1 : w1.heap[w.heap.size]? = some (.cells #[.int .i64 0, .int .i64 0] 29 (0, 0)) := (hb1.block _ (by simp)).trans (heap_alloc_at _ _ _ rfl)
  have HB : Hid (Below w.heap.size w w1) := (show Below w.heap.size w _ from (by repeat (first | exact Below.refl _ _ | exact HB.out | refine Below.drew ?_ | refine Below.drewN' ?_ _ | refine Below.alloc ?_ (by first | omega | (simp; try omega)) _ | refine Below.setCell ?_ (by first | omega | (simp; try omega)) _))).trans (hb1.mono (by simp))
  cases hv : listB ts with
  | false =>
    have HR := Lib.hid (placeA_bad (x := x) hv)
    obtain ⟨⟨c0, c1⟩, f0, f1, hlt⟩ := blk_cells G1
    go_wp2
    exact bodyPost_ret (v := .tuple #[.int .i64 0, .agg #[.int .i64 0, .int .i64 0], .int .i64 1]) (by simp [results, Try.results31, go_sem, c0, c1]) rfl ⟨by unfold placeV; rw [HR.out], (by repeat (first | exact Below.refl _ _ | exact HB.out | refine Below.drew ?_ | refine Below.drewN' ?_ _ | refine Below.alloc ?_ (by first | omega | (simp; try omega)) _ | refine Below.setCell ?_ (by first | omega | (simp; try omega)) _))⟩
  | true =>
    cases hx : inB x 0 1000000 with
    | false =>
      have HR := Lib.hid (placeA_out hv hx)
      obtain ⟨⟨c0, c1⟩, f0, f1, hlt⟩ := blk_cells G1
      go_wp2_with (go_at_call 66; refine (l00In_any _ _ _ _).mono ?_; rintro e w' ⟨rfl, rfl⟩)
      exact bodyPost_ret (v := .tuple #[.int .i64 0, .agg #[.int .i64 0, .int .i64 0], .int .i64 2]) (by simp [results, Try.results31, go_sem, c0, c1]) rfl ⟨by unfold placeV; rw [HR.out], (by repeat (first | exact Below.refl _ _ | exact HB.out | refine Below.drew ?_ | refine Below.drewN' ?_ _ | refine Below.alloc ?_ (by first | omega | (simp; try omega)) _ | refine Below.setCell ?_ (by first | omega | (simp; try omega)) _))⟩
    | true =>
      have HR := Lib.hid (placeA_in hv hx)
      obtain ⟨hx0, hx1⟩ := inB_parts hx
      obtain ⟨h8, hall⟩ := listB_parts hv
      have hn8 : n ≤ 8 := by rw [← hn.out]; exact h8
      have HALL := Lib.hid hall
      have HG := Lib.hid G1
      have HA1 := Lib.hid (HA.out.below hb1)
      clear hall h8 hv G1 hb1 HA
      go_wp2_with (go_at_call 66; refine (l00In_any _ _ _ _).mono ?_; rintro e w' ⟨rfl, rfl⟩)
      go_loopw [1, 7] (fun q i wr => ∃ (k m : Nat) (r : Int), k ≤ n ∧ 0 ≤ r ∧ r ≤ 1000000 ∧ i = .int .i64 k ∧ q = .int .i64 r ∧ wr = w1.drewN m ∧ Hid (placeA ts x = plF (ts.drop k) k r)) (fun _ i _ => n - (intOf i).toNat)
      case atStart => exact ⟨0, 0, x, by omega, hx0, hx1, rfl, rfl, rfl, HR⟩
      case round =>
        obtain ⟨k, m, r, hk, hr0, hr1, rfl, rfl, hwr, HP⟩ := hrel
        have hbel : Below w1.heap.size w1 wr := by rw [hwr]; exact Below.drewN' (Below.refl _ _) _
        have HW := Lib.hid hwr
        have G2 := Lib.hid ((hbel.block _ (blk_cells HG.out).2.2.2).trans HG.out)
        clear hwr
        by_cases hlt : k < n
        · have hka : k < ts.length := by rw [hn.out]; exact hlt
          obtain ⟨b, off, rfl, hb, hc⟩ := HA1.out.addr (by omega)
          obtain ⟨x0, x1, x2, x3⟩ := cRide_at hc k hka
          have ht := HALL.out k hka
          have HH := Lib.hid (fun h => HP.out.trans (plF_here (r := r) hka h))
          have HN := Lib.hid (fun h => HP.out.trans (plF_next (r := r) hka h))
          clear hc
          generalize ts[k] = t at x0 x1 x2 x3 ht HH HN
          rw [← hbel.cell (p := ⟨_, _, none⟩) hb] at x0 x1 x2 x3
          obtain ⟨t1, t2, t3, t4⟩ := ride_bounds ht
          obtain ⟨t5, t6⟩ := ticks_bounds ht
          obtain ⟨m1, m2⟩ := mul_le_of (a := r) (b := numR t) (A := 1000000) (B := 10000) (by omega) (by omega) (by omega) (by omega)
          have hk0 : (0 : Int) ≤ (k : Int) := by omega
          have hkn : (k : Int) < (n : Int) := by omega
          have HB2 : Hid (Below w.heap.size w wr) := HB.out.trans (hbel.mono HB.out.size)
          clear hbel
          go_wp2_with fail
          refine (l03Ticks_any b (off + k * 4) t _ ht x0 x1 x2 x3).mono ?_
          rintro e w2 ⟨rfl, m2', hw2⟩
          by_cases hd : r < ticksR t
          · have HS := Lib.hid (HH.out (by omega))
            have hbel : Below wr.heap.size wr w2 := by rw [hw2]; exact Below.drewN' (Below.refl _ _) _
            have hb' : b < wr.heap.size := by rw [HW.out]; exact hb
            rw [← hbel.cell (p := ⟨_, _, none⟩) hb'] at x0 x1 x2 x3
            have G3 : Hid (w2.heap[w.heap.size]? = some (.cells #[.int .i64 0, .int .i64 0] 29 (0, 0))) := (hbel.block _ (blk_cells G2.out).2.2.2).trans G2.out
            have HB3 : Hid (Below w.heap.size w w2) := HB2.out.trans (hbel.mono HB2.out.size)
            have hbw : b < w2.heap.size := by have := hbel.size; omega
            have HK : Hid (∀ w', Below w2.heap.size w2 w' → w'.cell? ⟨b, off + k * 4, none⟩ = some (.int .i64 t.1) ∧ w'.cell? ⟨b, off + k * 4 + 1, none⟩ = some (.int .i64 t.2.1) ∧ w'.cell? ⟨b, off + k * 4 + 2, none⟩ = some (.int .i64 t.2.2.1) ∧ w'.cell? ⟨b, off + k * 4 + 3, none⟩ = some (.int .i64 t.2.2.2)) := fun w' h => ⟨(h.cell (p := ⟨_, _, none⟩) hbw).trans x0, (h.cell (p := ⟨_, _, none⟩) hbw).trans x1, (h.cell (p := ⟨_, _, none⟩) hbw).trans x2, (h.cell (p := ⟨_, _, none⟩) hbw).trans x3⟩
            clear hw2 hbel x0 x1 x2 x3
            have HM : Hid (∀ w', Calls Try.prog 50 #[.int .i64 (IntKind.i64.wrap (r * numR t)), .int .i64 (denR t)] w' fun e w'' => e = .returned (.agg #[.int .i64 (lowI (r * numR t) (denR t)).1, .int .i64 (lowI (r * numR t) (denR t)).2]) ∧ Below w'.heap.size w' w'') := fun w' => by
              rw [IntWalk.i64_in _ (by omega)]
              exact l02Make_any _ _ _ m1 (by omega) (by omega) (by omega)
            have HK5 : Hid (∀ w4 w5, Below w2.heap.size w2 w4 → Below w4.heap.size w4 w5 → (w5.cell? ⟨w.heap.size, 0, none⟩ = some (.int .i64 0) ∧ w5.cell? ⟨w.heap.size, 1, none⟩ = some (.int .i64 0)) ∧ w5.frozen? ⟨w.heap.size, 0, none⟩ = false ∧ w5.frozen? ⟨w.heap.size, 1, none⟩ = false ∧ w.heap.size < w5.heap.size) := fun w4 w5 h4 h5 => by
              have hh := blk_cells G3.out
              exact blk_cells ((h5.block _ (Nat.lt_of_lt_of_le hh.2.2.2 h4.size)).trans ((h4.block _ hh.2.2.2).trans G3.out))
            go_wp2_with fail
            go_region_with (first | (go_at_call 51; refine (l03Num_any b (off + k * 4) t _ ht (HK.out _ (by repeat (first | exact Below.refl _ _ | refine Below.drew ?_ | refine Below.drewN' ?_ _))).2.2.1).mono ?_; rintro e w' ⟨rfl, m3, rfl⟩) | (go_at_call 52; refine (l03Den_any b (off + k * 4) t _ ht (HK.out _ (by repeat (first | exact Below.refl _ _ | refine Below.drew ?_ | refine Below.drewN' ?_ _))).2.1 (HK.out _ (by repeat (first | exact Below.refl _ _ | refine Below.drew ?_ | refine Below.drewN' ?_ _))).2.2.2).mono ?_; rintro e w' ⟨rfl, m4, rfl⟩) | (go_at_call 50; refine (HM.out _).mono ?_; rintro e w5 ⟨rfl, hb5⟩; obtain ⟨⟨c0, c1⟩, f0, f1, hgl⟩ := HK5.out _ _ (by repeat (first | exact Below.refl _ _ | refine Below.drew ?_ | refine Below.drewN' ?_ _)) hb5))
            all_goals
              have HB5 : Hid (Below w.heap.size w w5) := HB3.out.trans ((Below.trans (B := w2.heap.size) (by repeat (first | exact Below.refl _ _ | refine Below.drew ?_ | refine Below.drewN' ?_ _)) (hb5.mono (Below.size (B := w2.heap.size) (w := w2) (by repeat (first | exact Below.refl _ _ | refine Below.drew ?_ | refine Below.drewN' ?_ _))))).mono HB3.out.size)
              clear hb5
              go_wp2
              refine bodyPost_ret (v := .tuple #[.int .i64 (k : Int), .agg #[.int .i64 (lowI (r * numR t) (denR t)).1, .int .i64 (lowI (r * numR t) (denR t)).2], .int .i64 0]) (by simp [results, Try.results31, go_sem, c0, c1]) rfl ⟨by unfold placeV; rw [HS.out], ?_⟩
              exact (by repeat (first | exact Below.refl _ _ | exact HB5.out | refine Below.drew ?_ | refine Below.drewN' ?_ _ | refine Below.alloc ?_ (by first | omega | (simp; try omega)) _ | refine Below.setCell ?_ (by first | omega | (simp; try omega)) _))
          · have HS := Lib.hid (HN.out (by omega))
            have HW2 : Hid (w2 = w1.drewN (m + m2')) := by unfold Hid; rw [hw2, HW.out]; simp [World.drewN, Nat.add_assoc]
            clear hw2
            go_wp2
            go_roundw
            case rel => exact ⟨k + 1, m + m2', r - ticksR t, by omega, by omega, by omega, by go_num, rfl, HW2.out, HS⟩
            case measure => simp [intOf]; omega
        · have HS := Lib.hid (HP.out.trans (plF_end (by rw [hn.out]; omega)))
          obtain ⟨⟨c0, c1⟩, f0, f1, hgl⟩ := blk_cells G2.out
          have HB2 : Hid (Below w.heap.size w wr) := HB.out.trans (hbel.mono HB.out.size)
          clear hbel HB
          have HB := HB2
          go_wp2
          exact bodyPost_ret (v := .tuple #[.int .i64 0, .agg #[.int .i64 0, .int .i64 0], .int .i64 3]) (by simp [results, Try.results31, go_sem, c0, c1]) rfl ⟨by unfold placeV; rw [HS.out], (by repeat (first | exact Below.refl _ _ | exact HB.out | refine Below.drew ?_ | refine Below.drewN' ?_ _ | refine Below.alloc ?_ (by first | omega | (simp; try omega)) _ | refine Below.setCell ?_ (by first | omega | (simp; try omega)) _))⟩

set_option maxRecDepth 100000 in
set_option maxHeartbeats 4000000 in
theorem implPlaceAfter_any (a : Option Addr) (ts : List R4) (x : Int) (_wx : (Lit.int .i64 x).wf = true) (n ca : Nat) (w : World) (hn : Hid (ts.length = n)) (ha : RR 4 cRide w a ts) (hmax : n ≤ 1048576) :
    Calls Try.prog 32 #[.slice a n ca, .int .i64 x] w fun e w' => e = .returned (placeV ts x) ∧ Below w.heap.size w w' := by
  have HA : Hid (RR 4 cRide (w.alloc (.cells #[.int .i64 0, .int .i64 0] 29)) a ts) := ha.below ((Below.refl _ _).alloc (Nat.le_refl _) _)
  clear ha _wx
  go_enter Try.func32, Try.ntmps32
  go_wp2_with fail
  refine (checkRideList_any _ ts n _ _ hn HA.out hmax).mono ?_
  rintro e w1 ⟨rfl, hb1⟩
  have G1 : w1.heap[w.heap.size]? = some (.cells #[.int .i64 0, .int .i64 0] 29 (0, 0)) := (hb1.block _ (by simp)).trans (heap_alloc_at _ _ _ rfl)
  have HB : Hid (Below w.heap.size w w1) := (show Below w.heap.size w _ from (by repeat (first | exact Below.refl _ _ | exact HB.out | refine Below.drew ?_ | refine Below.drewN' ?_ _ | refine Below.alloc ?_ (by first | omega | (simp; try omega)) _ | refine Below.setCell ?_ (by first | omega | (simp; try omega)) _))).trans (hb1.mono (by simp))
  go_wp2_with fail
  refine (checkRange_any _ x 1000000 _).mono ?_
  rintro e w2 ⟨rfl, rfl⟩
  cases hv : listB ts with
  | false =>
    have HR := Lib.hid (placeA_bad (x := x) hv)
    have hok : rangeC (okC false) x 1000000 = 1 := rfl
    rw [hok]
    obtain ⟨⟨c0, c1⟩, f0, f1, hlt⟩ := blk_cells G1
    go_wp2
    exact bodyPost_ret (v := .tuple #[.int .i64 0, .agg #[.int .i64 0, .int .i64 0], .int .i64 1]) (by simp [results, Try.results32, go_sem, c0, c1]) rfl ⟨by unfold placeV; rw [HR.out], (by repeat (first | exact Below.refl _ _ | exact HB.out | refine Below.drew ?_ | refine Below.drewN' ?_ _ | refine Below.alloc ?_ (by first | omega | (simp; try omega)) _ | refine Below.setCell ?_ (by first | omega | (simp; try omega)) _))⟩
  | true =>
    cases hx : inB x 0 1000000 with
    | false =>
      have HR := Lib.hid (placeA_out hv hx)
      have hok : rangeC (okC true) x 1000000 = 2 := rangeC_out hx
      rw [hok]
      obtain ⟨⟨c0, c1⟩, f0, f1, hlt⟩ := blk_cells G1
      go_wp2
      exact bodyPost_ret (v := .tuple #[.int .i64 0, .agg #[.int .i64 0, .int .i64 0], .int .i64 2]) (by simp [results, Try.results32, go_sem, c0, c1]) rfl ⟨by unfold placeV; rw [HR.out], (by repeat (first | exact Below.refl _ _ | exact HB.out | refine Below.drew ?_ | refine Below.drewN' ?_ _ | refine Below.alloc ?_ (by first | omega | (simp; try omega)) _ | refine Below.setCell ?_ (by first | omega | (simp; try omega)) _))⟩
    | true =>
      have HR := Lib.hid (placeA_in hv hx)
      have hok : rangeC (okC true) x 1000000 = 0 := rangeC_in hx
      rw [hok]
      obtain ⟨hx0, hx1⟩ := inB_parts hx
      obtain ⟨h8, hall⟩ := listB_parts hv
      have hn8 : n ≤ 8 := by rw [← hn.out]; exact h8
      have HALL := Lib.hid hall
      have HG := Lib.hid G1
      have HA1 := Lib.hid (HA.out.below hb1)
      clear hall h8 hv G1 hb1 HA
      go_wp2
      go_loopw [1, 20] (fun q i wr => ∃ (k : Nat) (r : Int), k ≤ n ∧ 0 ≤ r ∧ r ≤ 1000000 ∧ i = .int .i64 k ∧ q = .int .i64 r ∧ Below w1.heap.size w1 wr ∧ Hid (placeA ts x = plF (ts.drop k) k r)) (fun _ i _ => n - (intOf i).toNat)
      case atStart => exact ⟨0, x, by omega, hx0, hx1, rfl, rfl, Below.refl _ _, HR⟩
      case round =>
        obtain ⟨k, r, hk, hr0, hr1, rfl, rfl, hbel, HP⟩ := hrel
        have G2 := Lib.hid ((hbel.block _ (blk_cells HG.out).2.2.2).trans HG.out)
        have hgw : w.heap.size < w1.heap.size := (blk_cells HG.out).2.2.2
        by_cases hlt : k < n
        · have hka : k < ts.length := by rw [hn.out]; exact hlt
          obtain ⟨b, off, rfl, hb, hc⟩ := HA1.out.addr (by omega)
          obtain ⟨x0, x1, x2, x3⟩ := cRide_at hc k hka
          have ht := HALL.out k hka
          have HH := Lib.hid (fun h => HP.out.trans (plF_here (r := r) hka h))
          have HN := Lib.hid (fun h => HP.out.trans (plF_next (r := r) hka h))
          clear hc
          generalize ts[k] = t at x0 x1 x2 x3 ht HH HN
          rw [← hbel.cell (p := ⟨_, _, none⟩) hb] at x0 x1 x2 x3
          obtain ⟨t1, t2, t3, t4⟩ := sp_bounds ht
          obtain ⟨t5, t6⟩ := ticks_bounds ht
          obtain ⟨m1, m2⟩ := mul_le_of (a := (spR t).1) (b := r) (A := 10000) (B := 1000000) (by omega) (by omega) (by omega) (by omega)
          have hk0 : (0 : Int) ≤ (k : Int) := by omega
          have hkn : (k : Int) < (n : Int) := by omega
          have hsz := hbel.size
          have HE : Hid (Below w1.heap.size w1 (wr.alloc (.cells #[.int .i64 t.1, .int .i64 t.2.1, .int .i64 t.2.2.1, .int .i64 t.2.2.2] 25))) := hbel.alloc (by omega) _
          have P1 := Box.alloc wr (cRide t) 25
          clear hbel
          go_wp2_with fail
          refine (rticks_any t _ ht).mono ?_
          rintro e w3 ⟨rfl, hb3⟩
          have P2 := P1.below hb3
          have HE3 : Hid (Below w1.heap.size w1 w3) := HE.out.trans (hb3.mono HE.out.size)
          clear hb3 HE P1
          obtain ⟨z0, z1, z2, z3⟩ := cRide_box P2
          by_cases hd : r < ticksR t
          · have HS := Lib.hid (HH.out (by omega))
            have HL := Lib.hid (low_times ht r)
            go_wp2_with fail
            refine (speed_any t _ ht).mono ?_
            rintro e w4 ⟨rfl, hb4⟩
            have HE4 : Hid (Below w1.heap.size w1 w4) := HE3.out.trans (hb4.mono HE3.out.size)
            clear hb4 HE3 z0 z1 z2 z3 x0 x1 x2 x3
            go_wp2_with fail
            refine (times_any _ _ r _ m1 (by omega) t3 (by omega)).mono ?_
            rintro e w5 ⟨rfl, hb5⟩
            have HE5 : Hid (Below w1.heap.size w1 w5) := HE4.out.trans (hb5.mono HE4.out.size)
            clear hb5 HE4
            obtain ⟨⟨c0, c1⟩, f0, f1, hgl⟩ := blk_cells ((HE5.out.block _ (blk_cells HG.out).2.2.2).trans HG.out)
            have HB5 : Hid (Below w.heap.size w w5) := HB.out.trans (HE5.out.mono HB.out.size)
            clear HB HE5
            go_wp2
            refine bodyPost_ret (v := .tuple #[.int .i64 (k : Int), .agg #[.int .i64 (lowI ((spR t).1 * r) (spR t).2).1, .int .i64 (lowI ((spR t).1 * r) (spR t).2).2], .int .i64 0]) (by simp [results, Try.results32, go_sem, c0, c1]) rfl ⟨by unfold placeV; rw [HS.out, HL.out], ?_⟩
            exact (by repeat (first | exact Below.refl _ _ | exact HB5.out | refine Below.drew ?_ | refine Below.drewN' ?_ _ | refine Below.alloc ?_ (by first | omega | (simp; try omega)) _ | refine Below.setCell ?_ (by first | omega | (simp; try omega)) _))
          · have HS := Lib.hid (HN.out (by omega))
            go_wp2_with fail
            refine (rticks_any t _ ht).mono ?_
            rintro e w4 ⟨rfl, hb4⟩
            have HE4 : Hid (Below w1.heap.size w1 w4) := HE3.out.trans (hb4.mono HE3.out.size)
            clear hb4 HE3 z0 z1 z2 z3 x0 x1 x2 x3
            go_wp2
            go_roundw
            case rel => exact ⟨k + 1, r - ticksR t, by omega, by omega, by omega, by go_num, rfl, HE4.out, HS⟩
            case measure => simp [intOf]; omega
        · have HS := Lib.hid (HP.out.trans (plF_end (by rw [hn.out]; omega)))
          obtain ⟨⟨c0, c1⟩, f0, f1, hgl⟩ := blk_cells G2.out
          have HB5 : Hid (Below w.heap.size w wr) := HB.out.trans (hbel.mono HB.out.size)
          clear hbel HB
          go_wp2
          exact bodyPost_ret (v := .tuple #[.int .i64 0, .agg #[.int .i64 0, .int .i64 0], .int .i64 3]) (by simp [results, Try.results32, go_sem, c0, c1]) rfl ⟨by unfold placeV; rw [HS.out], (by repeat (first | exact Below.refl _ _ | exact HB5.out | refine Below.drew ?_ | refine Below.drewN' ?_ _ | refine Below.alloc ?_ (by first | omega | (simp; try omega)) _ | refine Below.setCell ?_ (by first | omega | (simp; try omega)) _))⟩
end Go.Proofs.Ytcehkkamepdkoaa
