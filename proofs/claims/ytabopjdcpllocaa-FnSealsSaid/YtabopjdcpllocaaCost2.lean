/-
  CostOfMoves: the model's walk and the program's.
-/
import Derived.Test.YtabopjdcpllocaaCost
namespace Go.Proofs.Ytabopjdcpllocaa
open Go.RowKit

def oneCost (cs : List TInt64S) (t : TMove) : Int := t.2.2 * (cs.getD t.1.toNat ([], ())).1.getD t.2.1.toNat 0
def costAt (cs : List TInt64S) (ts : List TMove) (k : Nat) : Int := ((ts.take k).map (oneCost cs)).sum
theorem costAt_zero (cs : List TInt64S) (ts : List TMove) : costAt cs ts 0 = 0 := by simp [costAt]
theorem costAt_succ (cs : List TInt64S) (ts : List TMove) (k : Nat) (h : k < ts.length) : costAt cs ts (k + 1) = costAt cs ts k + oneCost cs ts[k] := by
  unfold costAt
  rw [List.take_succ_eq_append_getElem h, List.map_append, List.sum_append]
  simp
theorem oneCost_at {cs : List TInt64S} {f t : Nat} {x : Int} (hf : f < cs.length) (ht : t < cs[f].1.length) : oneCost cs ((f : Int), (t : Int), x) = x * cs[f].1[t] := by
  unfold oneCost
  dsimp only
  rw [Int.toNat_natCast, Int.toNat_natCast, List.getD_eq_getElem?_getD (l := cs), List.getElem?_eq_getElem hf, Option.getD_some, getD_at ht]
theorem mul_few {x c : Int} (h1 : 1 ≤ x) (h2 : x ≤ 200) (h3 : 0 ≤ c) (h4 : c ≤ 1000) : 0 ≤ x * c ∧ x * c ≤ 200000 := by
  refine ⟨Int.mul_nonneg (by omega) h3, ?_⟩
  have h5 : x * c ≤ 200 * c := Int.mul_le_mul_of_nonneg_right h2 h3
  omega
theorem oneCost_bd {s : Nat} {cs : List TInt64S} (h : ctB s cs = true) {t : TMove} (hm : mvB (s : Int) t = true) : 0 ≤ oneCost cs t ∧ oneCost cs t ≤ 200000 := by
  obtain ⟨f, t, x⟩ := t
  have hmv := mvB_of hm
  dsimp only at hmv
  obtain ⟨fn, rfl⟩ : ∃ fn : Nat, f = fn := ⟨f.toNat, by omega⟩
  obtain ⟨tn, rfl⟩ : ∃ tn : Nat, t = tn := ⟨t.toNat, by omega⟩
  have hf : fn < cs.length := by rw [ctB_len h]; omega
  obtain ⟨h1, h2⟩ := ctB_at h fn hf
  have ht : tn < cs[fn].1.length := by rw [h1]; omega
  rw [oneCost_at hf ht]
  have := h2 tn ht
  exact mul_few (by omega) (by omega) (by omega) (by omega)
theorem costAt_bd {s : Nat} {cs : List TInt64S} {ts : List TMove} (h : ctB s cs = true) (hm : ∀ j (h : j < ts.length), mvB (s : Int) ts[j] = true) (k : Nat) (hk : k ≤ ts.length) : 0 ≤ costAt cs ts k ∧ costAt cs ts k ≤ 200000 * (k : Int) := by
  induction k with
  | zero => rw [costAt_zero]; omega
  | succ k ih =>
    have h1 := ih (by omega)
    have h2 := oneCost_bd h (hm k (by omega))
    rw [costAt_succ _ _ _ (by omega)]
    omega
def costOf (ts : List TMove) (cs : List TInt64S) : Int × Int :=
  if inB (cs.length : Int) 2 10 = true ∧ ctB cs.length cs = true then if msB (cs.length : Int) ts = true then (costAt cs ts ts.length, 0) else (0, 2) else (0, 1)
theorem costOf_bad {ts : List TMove} {cs : List TInt64S} {n : Nat} (hn : cs.length = n) (h : ¬ (inB (n : Int) 2 10 = true ∧ ctB n cs = true)) : costOf ts cs = (0, 1) := by unfold costOf; rw [hn, if_neg h]
theorem costOf_range {ts : List TMove} {cs : List TInt64S} {n : Nat} (hn : cs.length = n) (h : inB (n : Int) 2 10 = true ∧ ctB n cs = true) (h2 : msB (n : Int) ts = false) : costOf ts cs = (0, 2) := by unfold costOf; rw [hn, if_pos h, h2]; rfl
theorem costOf_good {ts : List TMove} {cs : List TInt64S} {n m : Nat} (hn : cs.length = n) (hm : ts.length = m) (h : inB (n : Int) 2 10 = true ∧ ctB n cs = true) (h2 : msB (n : Int) ts = true) : costOf ts cs = (costAt cs ts m, 0) := by unfold costOf; rw [hn, if_pos h, if_pos h2, hm]

/-- What a move's cost reads: its row and its number. -/
theorem cost_cells {W : World} {a : Option Addr} {cs : List TInt64S} {s fn tn : Nat} (h : RN 1048576 1 cInt64S W a cs) (hv : ctB s cs = true) (hf : fn < s) (ht : tn < s) (x : Int) :
    ∃ b off b2 off2 ci, ∃ v : Int, a = some ⟨b, off, none⟩ ∧ W.cell? ⟨b, off + fn, none⟩ = some (.slice (some ⟨b2, off2, none⟩) s ci) ∧ W.cell? ⟨b2, off2 + tn, none⟩ = some (.int .i64 v) ∧ 0 ≤ v ∧ v ≤ 1000 ∧ oneCost cs ((fn : Int), (tn : Int), x) = x * v := by
  have hfc : fn < cs.length := by rw [ctB_len hv]; exact hf
  obtain ⟨h1, h2⟩ := ctB_at hv fn hfc
  obtain ⟨b, off, ai, ci, ha, _, hri, _, hc⟩ := h.at_ fn hfc
  have htc : tn < cs[fn].1.length := by rw [h1]; exact ht
  have x0 := hc 0 _ rfl
  simp only [Nat.mul_one, Nat.add_zero] at x0
  obtain ⟨b2, off2, hb2, _, y⟩ := hri.at_ tn htc
  subst hb2
  rw [h1] at x0
  exact ⟨b, off, b2, off2, ci, cs[fn].1[tn], ha, x0, y, (h2 tn htc).1, (h2 tn htc).2, oneCost_at hfc htc⟩

set_option maxHeartbeats 4000000 in
theorem specCostOfMoves_any (w : World) {a0 : Option Addr} {n0 c0 : Nat} (ts0 : List TMove) (hn0 : Hid (ts0.length = n0)) (h0 : RR 3 cMove w a0 ts0) (hs0 : n0 ≤ 1048576) (_wf0 : Hid (∀ t ∈ ts0, wfMove t)) {a1 : Option Addr} {n1 c1 : Nat} (ts1 : List TInt64S) (hn1 : Hid (ts1.length = n1)) (h1 : RN 1048576 1 cInt64S w a1 ts1) (hs1 : n1 ≤ 1048576) (_wf1 : Hid (∀ t ∈ ts1, wfInt64S t)) :
    Calls Try.prog 34 #[.slice a0 n0 c0, .slice a1 n1 c1] w fun e w' => e = .returned (.tuple #[.int .i64 (costOf ts0 ts1).1, .int .i64 (costOf ts0 ts1).2]) ∧ Below w.heap.size w w' := by
  have HT : Hid (∀ w', Below w.heap.size w w' → RR 3 cMove w' a0 ts0) := fun w' h => h0.below h
  have HC : Hid (∀ w', Below w.heap.size w w' → RN 1048576 1 cInt64S w' a1 ts1) := fun w' h => h1.below h
  have CT := l07Costs_any n1 a1 ts1 n1 c1 w hn1 h1 hs1 hs1
  clear h0 h1
  cases hi : inB (n1 : Int) 2 10 with
  | false =>
    have HR : Hid (costOf ts0 ts1 = (0, 1)) := costOf_bad hn1.out (by rw [hi]; simp)
    clear CT
    go_enter Try.func34, Try.ntmps34
    go_wp2_with (first | (go_at_call 40; refine (l00In_any _ _ _ _).mono ?_; rintro e w' ⟨rfl, rfl⟩))
    go_ret2
    rw [HR.out]
    exact ⟨rfl, Below.refl _ _⟩
  | true =>
    cases hct : ctB n1 ts1 with
    | false =>
      have HR : Hid (costOf ts0 ts1 = (0, 1)) := costOf_bad hn1.out (by rw [hct]; simp)
      rw [hct] at CT
      go_enter Try.func34, Try.ntmps34
      go_wp2_with (first | (go_at_call 40; refine (l00In_any _ _ _ _).mono ?_; rintro e w' ⟨rfl, rfl⟩) | (go_at_call 68; refine CT.mono ?_; rintro e w' ⟨rfl, rfl⟩))
      go_ret2
      rw [HR.out]
      exact ⟨rfl, Below.refl _ _⟩
    | true =>
      have HV : Hid (inB (n1 : Int) 2 10 = true ∧ ctB n1 ts1 = true) := ⟨hi, hct⟩
      have hn10 := inB_of hi
      rw [hct] at CT
      clear hct
      go_enter Try.func34, Try.ntmps34
      go_wp2_with (first | (go_at_call 40; refine (l00In_any _ _ _ _).mono ?_; rintro e w' ⟨rfl, rfl⟩) | (go_at_call 68; refine CT.mono ?_; rintro e w' ⟨rfl, rfl⟩))
      clear hi CT
      go_loopw [6] (fun iv wr => ∃ k : Nat, k ≤ n0 ∧ iv = .int .i64 k ∧ Hid (Below w.heap.size w wr) ∧ Hid (∀ j (h : j < ts0.length), j < k → mvB (n1 : Int) ts0[j] = true)) (fun iv _ => n0 - (intOf iv).toNat)
      case atStart => exact ⟨0, by omega, rfl, Below.refl _ _, fun j _ hj => by omega⟩
      case round =>
        obtain ⟨k, hk, rfl, HBEL, HALL⟩ := hrel
        by_cases hlt : k < n0
        · have hka : k < ts0.length := by rw [hn0.out]; exact hlt
          have HBAD : Hid (mvB (n1 : Int) ts0[k] = false → costOf ts0 ts1 = (0, 2)) := fun h => costOf_range hn1.out HV.out (by unfold msB; rw [all_no (f := mvB (n1 : Int)) k hka h]; simp)
          have HOK : Hid (mvB (n1 : Int) ts0[k] = true → ∀ j (h : j < ts0.length), j < k + 1 → mvB (n1 : Int) ts0[j] = true) := fun ht j h hj => if e : j = k then (by subst e; exact ht) else HALL.out j h (by omega)
          obtain ⟨b, off, rfl, _, hc⟩ := (HT.out _ HBEL.out).at_ k hka
          have x0 := hc 0 _ rfl
          have x1 := hc 1 _ rfl
          have x2 := hc 2 _ rfl
          simp only [Nat.add_zero] at x0
          clear hc
          generalize ts0[k] = t at x0 x1 x2 HBAD HOK
          have MV := l07Move_any b (off + k * 3) n1 t wr hs1 x0 x1 x2
          have hk0 : (0 : Int) ≤ (k : Int) := by omega
          have hk1 : (k : Int) < (n0 : Int) := by omega
          clear x0 x1 x2
          cases hm : mvB (n1 : Int) t with
          | false =>
            have HR := Lib.hid (HBAD.out hm)
            rw [hm] at MV
            clear HOK HBAD hm
            go_wp2_with (go_at_call 58; refine MV.mono ?_; rintro e w2 ⟨rfl, hb2⟩)
            go_ret2
            rw [HR.out]
            exact ⟨rfl, two_worlds HBEL.out hb2⟩
          | true =>
            have HOK2 := Lib.hid (HOK.out hm)
            rw [hm] at MV
            clear HOK HBAD hm
            go_wp2_with (go_at_call 58; refine MV.mono ?_; rintro e w2 ⟨rfl, hb2⟩)
            go_roundw
            case rel => exact ⟨k + 1, by omega, by go_num, two_worlds HBEL.out hb2, HOK2⟩
            case measure => simp [intOf]; omega
        · have HAL : Hid (∀ j (h : j < ts0.length), mvB (n1 : Int) ts0[j] = true) := fun j h => HALL.out j h (by rw [hn0.out] at h; omega)
          clear HALL
          by_cases h40 : 40 < n0
          · have HR : Hid (costOf ts0 ts1 = (0, 2)) := costOf_range hn1.out HV.out (by unfold msB; rw [hn0.out, show decide (n0 ≤ 40) = false from decide_eq_false (by omega)]; rfl)
            go_wp2
            go_ret2
            rw [HR.out]
            exact ⟨rfl, HBEL.out⟩
          · have HR : Hid (costOf ts0 ts1 = (costAt ts1 ts0 n0, 0)) := costOf_good hn1.out hn0.out HV.out (by unfold msB; rw [hn0.out, all_yes (fun j hj => HAL.out j hj), show decide (n0 ≤ 40) = true from decide_eq_true (by omega)]; rfl)
            obtain ⟨wo, hwo⟩ : ∃ wo, wo = wr := ⟨wr, rfl⟩
            subst hwo
            go_wp2
            go_loopw [7, 8] (fun sv iv wr => ∃ k : Nat, k ≤ n0 ∧ iv = .int .i64 k ∧ sv = .int .i64 (costAt ts1 ts0 k) ∧ Hid (Below w.heap.size w wr)) (fun _ iv _ => n0 - (intOf iv).toNat)
            case atStart => exact ⟨0, by omega, rfl, by rw [costAt_zero], HBEL⟩
            case round =>
              obtain ⟨k, hk, rfl, rfl, HBR⟩ := hrel
              by_cases hlt : k < n0
              · have hka : k < ts0.length := by rw [hn0.out]; exact hlt
                have hmv := mvB_of (HAL.out k hka)
                have HS := Lib.hid (costAt_succ ts1 ts0 k hka)
                have hbd := costAt_bd HV.out.2 HAL.out k (by omega)
                obtain ⟨b, off, rfl, _, hc⟩ := (HT.out _ HBR.out).at_ k hka
                have x0 := hc 0 _ rfl
                have x1 := hc 1 _ rfl
                have x2 := hc 2 _ rfl
                simp only [Nat.add_zero] at x0
                clear hc
                generalize ts0[k] = t at x0 x1 x2 HS hmv
                obtain ⟨f, t, x⟩ := t
                dsimp only at x0 x1 x2 HS hmv
                obtain ⟨fn, rfl⟩ : ∃ fn : Nat, f = fn := ⟨f.toNat, by omega⟩
                obtain ⟨tn, rfl⟩ : ∃ tn : Nat, t = tn := ⟨t.toNat, by omega⟩
                obtain ⟨bc, oc, b2, off2, ci, v, rfl, y0, y1, hv0, hv1, hone⟩ := cost_cells (HC.out _ HBR.out) HV.out.2 (fn := fn) (tn := tn) (by omega) (by omega) x
                rw [hone] at HS
                have hp := mul_few (x := x) (c := v) (by omega) (by omega) hv0 hv1
                generalize costAt ts1 ts0 k = s at HS hbd
                have hf0 : (0 : Int) ≤ (fn : Int) := by omega
                have hf1 : (fn : Int) < (n1 : Int) := by omega
                have ht0 : (0 : Int) ≤ (tn : Int) := by omega
                have ht1 : (tn : Int) < (n1 : Int) := by omega
                have hk0 : (0 : Int) ≤ (k : Int) := by omega
                have hk1 : (k : Int) < (n0 : Int) := by omega
                clear hone hmv hv0 hv1
                go_wp2_with fail
                go_quiet (fail)
                go_wp2
                go_roundw
                case rel => exact ⟨k + 1, by omega, by go_num, by first | rw [HS.out] | rw [IntWalk.i64_in (x * v) (by omega), IntWalk.i64_in (s + x * v) (by omega), HS.out], Below.drewN' HBR.out _⟩
                case measure => simp [intOf]; omega
              · have hkn : k = n0 := by omega
                subst hkn
                go_wp2
                go_ret2
                rw [HR.out]
                exact ⟨rfl, HBR.out⟩

set_option maxHeartbeats 4000000 in
theorem costOfMoves_any (a : Option Addr) (ts0 : List TMove) (n0 c0 : Nat) (a1 : Option Addr) (ts1 : List TInt64S) (n1 c1 : Nat) (w : World) (hn0 : Hid (ts0.length = n0)) (h0 : RR 3 cMove w a ts0) (h1 : RN 1048576 1 cInt64S w a1 ts1) (h40 : n0 ≤ 40) (hct : ctB n1 ts1 = true) (hal : ∀ j (h : j < ts0.length), mvB (n1 : Int) ts0[j] = true) :
    Calls Try.prog 67 #[.slice a n0 c0, .slice a1 n1 c1] w fun e w' => e = .returned (.int .i64 (costAt ts1 ts0 n0)) ∧ Below w.heap.size w w' := by
  have HT : Hid (∀ w', Below w.heap.size w w' → RR 3 cMove w' a ts0) := fun w' h => h0.below h
  have HC : Hid (∀ w', Below w.heap.size w w' → RN 1048576 1 cInt64S w' a1 ts1) := fun w' h => h1.below h
  have HAL := Lib.hid hal
  have HCT := Lib.hid hct
  clear h0 h1 hal hct
  go_enter Try.func67, Try.ntmps67
  go_wp2
  go_loopw [5, 10] (fun sv iv wr => ∃ k : Nat, k ≤ n0 ∧ iv = .int .i64 k ∧ sv = .int .i64 (costAt ts1 ts0 k) ∧ Hid (Below w.heap.size w wr)) (fun _ iv _ => n0 - (intOf iv).toNat)
  case atStart => exact ⟨0, by omega, rfl, by rw [costAt_zero], Below.refl _ _⟩
  case round =>
    obtain ⟨k, hk, rfl, rfl, HBR⟩ := hrel
    by_cases hlt : k < n0
    · have hka : k < ts0.length := by rw [hn0.out]; exact hlt
      have hmv := mvB_of (HAL.out k hka)
      have HS := Lib.hid (costAt_succ ts1 ts0 k hka)
      have hbd := costAt_bd HCT.out HAL.out k (by omega)
      obtain ⟨b, off, rfl, _, hc⟩ := (HT.out _ HBR.out).at_ k hka
      have x0 := hc 0 _ rfl
      have x1 := hc 1 _ rfl
      have x2 := hc 2 _ rfl
      simp only [Nat.add_zero] at x0
      clear hc
      generalize ts0[k] = t at x0 x1 x2 HS hmv
      obtain ⟨f, t, x⟩ := t
      dsimp only at x0 x1 x2 HS hmv
      obtain ⟨fn, rfl⟩ : ∃ fn : Nat, f = fn := ⟨f.toNat, by omega⟩
      obtain ⟨tn, rfl⟩ : ∃ tn : Nat, t = tn := ⟨t.toNat, by omega⟩
      have hws := HBR.out.size
      have HB1 : Hid (Below w.heap.size w (wr.alloc (.cells #[.int .i64 fn, .int .i64 tn, .int .i64 x] 44))) := HBR.out.alloc hws _
      obtain ⟨bc, oc, b2, off2, ci, v, rfl, y0, y1, hv0, hv1, hone⟩ := cost_cells (HC.out _ HB1.out) HCT.out (fn := fn) (tn := tn) (by omega) (by omega) x
      rw [hone] at HS
      have hp := mul_few (x := x) (c := v) (by omega) (by omega) hv0 hv1
      generalize costAt ts1 ts0 k = s at HS hbd
      have hf0 : (0 : Int) ≤ (fn : Int) := by omega
      have hf1 : (fn : Int) < (n1 : Int) := by omega
      have ht0 : (0 : Int) ≤ (tn : Int) := by omega
      have ht1 : (tn : Int) < (n1 : Int) := by omega
      have hk0 : (0 : Int) ≤ (k : Int) := by omega
      have hk1 : (k : Int) < (n0 : Int) := by omega
      clear hone hmv hv0 hv1
      go_wp2_with fail
      have z0 : (wr.alloc (.cells #[.int .i64 fn, .int .i64 tn, .int .i64 x] 44)).cell? ⟨wr.heap.size, 0, none⟩ = some (.int .i64 fn) := by simp [go_sem]
      have z1 : (wr.alloc (.cells #[.int .i64 fn, .int .i64 tn, .int .i64 x] 44)).cell? ⟨wr.heap.size, 1, none⟩ = some (.int .i64 tn) := by simp [go_sem]
      have z2 : (wr.alloc (.cells #[.int .i64 fn, .int .i64 tn, .int .i64 x] 44)).cell? ⟨wr.heap.size, 2, none⟩ = some (.int .i64 x) := by simp [go_sem]
      clear x0 x1 x2
      generalize hwb : wr.alloc (.cells #[.int .i64 fn, .int .i64 tn, .int .i64 x] 44) = wb at y0 y1 z0 z1 z2 HB1
      clear hwb
      go_quiet (fail)
      go_wp2
      go_roundw
      case rel => exact ⟨k + 1, by omega, by go_num, by first | rw [HS.out] | rw [IntWalk.i64_in (x * v) (by omega), IntWalk.i64_in (s + x * v) (by omega), HS.out], Below.drewN' HB1.out _⟩
      case measure => simp [intOf]; omega
    · have hkn : k = n0 := by omega
      subst hkn
      go_wp2
      go_ret
      exact ⟨rfl, HBR.out⟩

set_option maxHeartbeats 4000000 in
theorem implCostOfMoves_any (w : World) {a0 : Option Addr} {n0 c0 : Nat} (ts0 : List TMove) (hn0 : Hid (ts0.length = n0)) (h0 : RR 3 cMove w a0 ts0) (hs0 : n0 ≤ 1048576) (_wf0 : Hid (∀ t ∈ ts0, wfMove t)) {a1 : Option Addr} {n1 c1 : Nat} (ts1 : List TInt64S) (hn1 : Hid (ts1.length = n1)) (h1 : RN 1048576 1 cInt64S w a1 ts1) (hs1 : n1 ≤ 1048576) (_wf1 : Hid (∀ t ∈ ts1, wfInt64S t)) :
    Calls Try.prog 33 #[.slice a0 n0 c0, .slice a1 n1 c1] w fun e w' => e = .returned (.tuple #[.int .i64 (costOf ts0 ts1).1, .int .i64 (costOf ts0 ts1).2]) ∧ Below w.heap.size w w' := by
  have HT : Hid (∀ w', Below w.heap.size w w' → RR 3 cMove w' a0 ts0) := fun w' h => h0.below h
  have HC : Hid (∀ w', Below w.heap.size w w' → RN 1048576 1 cInt64S w' a1 ts1) := fun w' h => h1.below h
  have SC := isStationCount_any n1 w hs1
  have CT := areCosts_any n1 a1 ts1 n1 c1 w hn1 h1 hs1 hs1
  have CM := fun c => checkMoves_any c n1 a0 ts0 n0 c0 w hn0 h0 hs0 hs1
  clear h0 h1
  by_cases hbad : inB (n1 : Int) 2 10 = true ∧ ctB n1 ts1 = true
  · have HV := Lib.hid hbad
    obtain ⟨hi, hct⟩ := hbad
    have hn10 := inB_of hi
    have CM0 := CM 0
    rw [hi] at SC
    rw [hct] at CT
    clear CM hi hct
    cases hm : msB (n1 : Int) ts0 with
    | false =>
      have hmc : mcode 0 n1 ts0 = 2 := by unfold mcode; rw [hm]; rfl
      have HR : Hid (costOf ts0 ts1 = (0, 2)) := costOf_range hn1.out HV.out hm
      rw [hmc] at CM0
      clear hmc hm
      go_enter Try.func33, Try.ntmps33
      go_wp2_with (first | (go_at_call 65; refine SC.mono ?_; rintro e w' ⟨rfl, rfl⟩) | (go_at_call 66; refine CT.mono ?_; rintro e w' ⟨rfl, rfl⟩) | (go_at_call 52; refine CM0.mono ?_; rintro e w1 ⟨rfl, hb1⟩))
      go_ret2
      rw [HR.out]
      exact ⟨rfl, hb1⟩
    | true =>
      have hmc : mcode 0 n1 ts0 = 0 := by unfold mcode; rw [hm]; rfl
      have HR : Hid (costOf ts0 ts1 = (costAt ts1 ts0 n0, 0)) := costOf_good hn1.out hn0.out HV.out hm
      have h40 : n0 ≤ 40 := by have := msB_few hm; rw [hn0.out] at this; exact this
      have CO : Hid (∀ W, Below w.heap.size w W → Calls Try.prog 67 #[.slice a0 n0 c0, .slice a1 n1 c1] W fun e w' => e = .returned (.int .i64 (costAt ts1 ts0 n0)) ∧ Below W.heap.size W w') := fun W h => costOfMoves_any a0 ts0 n0 c0 a1 ts1 n1 c1 W hn0 (HT.out W h) (HC.out W h) h40 HV.out.2 (fun j hj => msB_at hm j hj)
      rw [hmc] at CM0
      clear hmc hm
      go_enter Try.func33, Try.ntmps33
      go_wp2_with (first | (go_at_call 65; refine SC.mono ?_; rintro e w' ⟨rfl, rfl⟩) | (go_at_call 66; refine CT.mono ?_; rintro e w' ⟨rfl, rfl⟩) | (go_at_call 52; refine CM0.mono ?_; rintro e w1 ⟨rfl, hb1⟩) | (go_at_call 67; refine (CO.out _ hb1).mono ?_; rintro e w2 ⟨rfl, hb2⟩))
      go_ret2
      rw [HR.out]
      exact ⟨rfl, two_worlds hb1 hb2⟩
  · have HR : Hid (costOf ts0 ts1 = (0, 1)) := costOf_bad hn1.out hbad
    have CM1 := CM 1
    have hmc : mcode 1 n1 ts0 = 1 := by unfold mcode; rw [if_neg (by decide)]
    rw [hmc] at CM1
    clear CM hmc
    cases hi : inB (n1 : Int) 2 10 with
    | false =>
      rw [hi] at SC
      clear hbad CT
      go_enter Try.func33, Try.ntmps33
      go_wp2_with (first | (go_at_call 65; refine SC.mono ?_; rintro e w' ⟨rfl, rfl⟩) | (go_at_call 52; refine CM1.mono ?_; rintro e w1 ⟨rfl, hb1⟩))
      go_ret2
      rw [HR.out]
      exact ⟨rfl, hb1⟩
    | true =>
      have hct : ctB n1 ts1 = false := by
        cases h : ctB n1 ts1 with
        | false => rfl
        | true => exact absurd ⟨hi, h⟩ hbad
      rw [hi] at SC
      rw [hct] at CT
      clear hbad hct
      go_enter Try.func33, Try.ntmps33
      go_wp2_with (first | (go_at_call 65; refine SC.mono ?_; rintro e w' ⟨rfl, rfl⟩) | (go_at_call 66; refine CT.mono ?_; rintro e w' ⟨rfl, rfl⟩) | (go_at_call 52; refine CM1.mono ?_; rintro e w1 ⟨rfl, hb1⟩))
      go_ret2
      rw [HR.out]
      exact ⟨rfl, hb1⟩
end Go.Proofs.Ytabopjdcpllocaa
