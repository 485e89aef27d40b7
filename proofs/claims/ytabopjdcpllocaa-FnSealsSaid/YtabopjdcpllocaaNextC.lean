/-
  NextCarrier: the model's walk and the program's.
-/
import Derived.Test.YtabopjdcpllocaaRunCar
import Derived.Test.YtabopjdcpllocaaRegHand
namespace Go.Proofs.Ytabopjdcpllocaa
open Go.RowKit

/-- Does the carrier t run ahead of the carrier b? -/
def nxLess (ts : List TSeal) (t : TSeal) (b : Int) : Bool := decide (b < 0) || decide (t.1 * (ts.getD b.toNat (0, 0)).2 < (ts.getD b.toNat (0, 0)).1 * t.2)
def nextAt (ts : List TSeal) : Nat → Int
  | 0 => -1
  | k + 1 => if (ts.getD k (0, 0)).1 < (ts.getD k (0, 0)).2 ∧ nxLess ts (ts.getD k (0, 0)) (nextAt ts k) = true then (k : Int) else nextAt ts k
theorem nextAt_bd (ts : List TSeal) (k : Nat) : -1 ≤ nextAt ts k ∧ nextAt ts k < (k : Int) := by
  induction k with
  | zero => simp [nextAt]
  | succ k ih =>
    rw [nextAt]
    split
    · omega
    · omega
theorem nextAt_worn {ts : List TSeal} {k : Nat} (hk : k < ts.length) (h : ¬ ts[k].1 < ts[k].2) : nextAt ts (k + 1) = nextAt ts k := by
  rw [nextAt, List.getD_eq_getElem?_getD, List.getElem?_eq_getElem hk, Option.getD_some, if_neg (fun h2 => h h2.1)]
theorem nextAt_first {ts : List TSeal} {k : Nat} (hk : k < ts.length) (h : ts[k].1 < ts[k].2) (h2 : nextAt ts k = -1) : nextAt ts (k + 1) = (k : Int) := by
  rw [nextAt, List.getD_eq_getElem?_getD, List.getElem?_eq_getElem hk, Option.getD_some, h2, if_pos ⟨h, by unfold nxLess; simp⟩]
theorem nextAt_less {ts : List TSeal} {k b : Nat} (hk : k < ts.length) (hb : b < ts.length) (h : ts[k].1 < ts[k].2) (h2 : nextAt ts k = (b : Int)) (h3 : ts[k].1 * ts[b].2 < ts[b].1 * ts[k].2) : nextAt ts (k + 1) = (k : Int) := by
  have key : nxLess ts ts[k] (b : Int) = true := by
    unfold nxLess
    rw [Int.toNat_natCast, List.getD_eq_getElem?_getD, List.getElem?_eq_getElem hb, Option.getD_some, decide_eq_true h3]
    simp
  rw [nextAt, List.getD_eq_getElem?_getD, List.getElem?_eq_getElem hk, Option.getD_some, h2, if_pos ⟨h, key⟩]
theorem nextAt_not {ts : List TSeal} {k b : Nat} (hk : k < ts.length) (hb : b < ts.length) (h2 : nextAt ts k = (b : Int)) (h3 : ¬ ts[k].1 * ts[b].2 < ts[b].1 * ts[k].2) : nextAt ts (k + 1) = (b : Int) := by
  rw [nextAt, List.getD_eq_getElem?_getD, List.getElem?_eq_getElem hk, Option.getD_some, h2, if_neg]
  rintro ⟨_, h⟩
  unfold nxLess at h
  rw [Int.toNat_natCast, List.getD_eq_getElem?_getD, List.getElem?_eq_getElem hb, Option.getD_some, decide_eq_false h3, decide_eq_false (by omega)] at h
  exact absurd h (by decide)
def nextOf (ts : List TSeal) : Int × Int := if slB ts = true then (if nextAt ts ts.length < 0 then (0, 3) else (nextAt ts ts.length, 0)) else (0, 1)
theorem nextOf_bad {ts : List TSeal} (h : slB ts = false) : nextOf ts = (0, 1) := by unfold nextOf; rw [h]; rfl
theorem nextOf_none {ts : List TSeal} {n : Nat} (h : slB ts = true) (hn : ts.length = n) (h2 : nextAt ts n = -1) : nextOf ts = (0, 3) := by unfold nextOf; rw [if_pos h, hn, h2]; rfl
theorem nextOf_some {ts : List TSeal} {n b : Nat} (h : slB ts = true) (hn : ts.length = n) (h2 : nextAt ts n = (b : Int)) : nextOf ts = ((b : Int), 0) := by unfold nextOf; rw [if_pos h, hn, h2, if_neg (by omega)]
theorem mul_bd {a b : Int} (ha : 0 ≤ a) (ha2 : a ≤ 1000) (hb : 0 ≤ b) (hb2 : b ≤ 1000) : 0 ≤ a * b ∧ a * b ≤ 1000000 := by
  refine ⟨Int.mul_nonneg ha hb, ?_⟩
  have h1 : a * b ≤ 1000 * b := Int.mul_le_mul_of_nonneg_right ha2 hb
  omega

set_option maxHeartbeats 4000000 in
theorem specNextCarrier_any (w : World) {a0 : Option Addr} {n0 c0 : Nat} (ts0 : List TSeal) (hn0 : Hid (ts0.length = n0)) (h0 : RR 2 cSeal w a0 ts0) (hs0 : n0 ≤ 1048576) (_wf0 : Hid (∀ t ∈ ts0, wfSeal t)) :
    Calls Try.prog 18 #[.slice a0 n0 c0] w fun e w' => e = .returned (.tuple #[.int .i64 (nextOf ts0).1, .int .i64 (nextOf ts0).2]) ∧ Below w.heap.size w w' := by
  have HA : Hid (∀ w', Below w.heap.size w w' → RR 2 cSeal w' a0 ts0) := fun w' h => h0.below h
  have SE := l07Seals_any a0 ts0 n0 c0 w hn0 h0 hs0
  clear h0
  cases hv : slB ts0 with
  | false =>
    rw [hv] at SE
    have HR := Lib.hid (nextOf_bad hv)
    clear hv
    go_enter Try.func18, Try.ntmps18
    go_wp2_with (go_at_call 36; refine SE.mono ?_; rintro e w1 ⟨rfl, hb1⟩)
    go_ret2
    rw [HR.out]
    exact ⟨rfl, hb1⟩
  | true =>
    have HV := Lib.hid hv
    rw [hv] at SE
    have hfew : n0 ≤ 60 := by have := slB_few hv; rw [hn0.out] at this; exact this
    clear hv
    go_enter Try.func18, Try.ntmps18
    go_wp2_with (go_at_call 36; refine SE.mono ?_; rintro e w1 ⟨rfl, hb1⟩)
    have HB1 := Lib.hid hb1
    clear hb1 SE
    go_loopw [4, 5] (fun bv iv wr => ∃ k : Nat, k ≤ n0 ∧ iv = .int .i64 k ∧ bv = .int .i64 (nextAt ts0 k) ∧ Hid (Below w.heap.size w wr)) (fun _ iv _ => n0 - (intOf iv).toNat)
    case atStart => exact ⟨0, by omega, rfl, rfl, HB1⟩
    case round =>
      obtain ⟨k, hk, rfl, rfl, HBEL⟩ := hrel
      have hbd := nextAt_bd ts0 k
      by_cases hlt : k < n0
      · have hka : k < ts0.length := by rw [hn0.out]; exact hlt
        have HWORN : Hid (¬ ts0[k].1 < ts0[k].2 → nextAt ts0 (k + 1) = nextAt ts0 k) := fun h => nextAt_worn hka h
        have HFIRST : Hid (ts0[k].1 < ts0[k].2 → nextAt ts0 k = -1 → nextAt ts0 (k + 1) = (k : Int)) := fun h h2 => nextAt_first hka h h2
        have hat := slB_at HV.out k hka
        obtain ⟨b, off, rfl, _, hc⟩ := (HA.out _ HBEL.out).at_ k hka
        have x0 := hc 0 _ rfl
        have x1 := hc 1 _ rfl
        simp only [Nat.add_zero] at x0
        clear hc
        have hk0 : (0 : Int) ≤ (k : Int) := by omega
        have hk1 : (k : Int) < (n0 : Int) := by omega
        by_cases hneg : nextAt ts0 k = -1
        · generalize ts0[k] = t at x0 x1 HWORN HFIRST hat
          obtain ⟨t1, t2⟩ := t
          dsimp only at x0 x1 HWORN HFIRST hat
          rw [hneg]
          cases d1 : decide (t1 < t2) with
          | true =>
            have HN := Lib.hid (HFIRST.out (of_decide_eq_true d1) hneg)
            clear HWORN HFIRST hneg hbd
            go_wp2_with fail
            go_quiet (fail)
            go_wp2
            go_roundw
            case rel => exact ⟨k + 1, by omega, by go_num, by rw [HN.out], Below.drewN' HBEL.out _⟩
            case measure => simp [intOf]; omega
          | false =>
            have HN : Hid (nextAt ts0 (k + 1) = -1) := (HWORN.out (of_decide_eq_false d1)).trans hneg
            clear HWORN HFIRST hneg hbd
            go_wp2_with fail
            go_quiet (fail)
            go_wp2
            go_roundw
            case rel => exact ⟨k + 1, by omega, by go_num, by rw [HN.out], Below.drewN' HBEL.out _⟩
            case measure => simp [intOf]; omega
        · obtain ⟨m, hm⟩ : ∃ m : Nat, nextAt ts0 k = (m : Int) := ⟨(nextAt ts0 k).toNat, by omega⟩
          have hmk : m < k := by omega
          have hma : m < ts0.length := by omega
          have HLESS : Hid (ts0[k].1 < ts0[k].2 → ts0[k].1 * ts0[m].2 < ts0[m].1 * ts0[k].2 → nextAt ts0 (k + 1) = (k : Int)) := fun h h3 => nextAt_less hka hma h hm h3
          have HNOT : Hid (¬ ts0[k].1 * ts0[m].2 < ts0[m].1 * ts0[k].2 → nextAt ts0 (k + 1) = (m : Int)) := fun h3 => nextAt_not hka hma hm h3
          have hau := slB_at HV.out m hma
          obtain ⟨b2, off2, hbe, _, hc2⟩ := (HA.out _ HBEL.out).at_ m hma
          injection hbe with hbe
          injection hbe with e1 e2
          subst e1 e2
          have y0 := hc2 0 _ rfl
          have y1 := hc2 1 _ rfl
          simp only [Nat.add_zero] at y0
          clear hc2 HFIRST hneg
          rw [hm] at HWORN
          rw [hm]
          clear hm hbd
          generalize ts0[k] = t at x0 x1 HWORN HLESS HNOT hat
          generalize ts0[m] = u at y0 y1 HLESS HNOT hau
          obtain ⟨t1, t2⟩ := t
          obtain ⟨u1, u2⟩ := u
          dsimp only at x0 x1 y0 y1 HWORN HLESS HNOT hat hau
          have hm0 : (0 : Int) ≤ (m : Int) := by omega
          have hm1 : (m : Int) < (n0 : Int) := by omega
          have dm : decide ((m : Int) < 0) = false := decide_eq_false (by omega)
          have hp1 := mul_bd (a := t1) (b := u2) (by omega) (by omega) (by omega) (by omega)
          have hp2 := mul_bd (a := u1) (b := t2) (by omega) (by omega) (by omega) (by omega)
          have hw1 : IntKind.i64.wrap (t1 * u2) = t1 * u2 := IntWalk.i64_in _ (by omega)
          have hw2 : IntKind.i64.wrap (u1 * t2) = u1 * t2 := IntWalk.i64_in _ (by omega)
          cases d1 : decide (t1 < t2) with
          | false =>
            have HN := Lib.hid (HWORN.out (of_decide_eq_false d1))
            clear HWORN HLESS HNOT hw1 hw2 hp1 hp2 hat hau
            go_wp2_with fail
            go_quiet (fail)
            go_wp2
            go_roundw
            case rel => exact ⟨k + 1, by omega, by go_num, by rw [HN.out], Below.drewN' HBEL.out _⟩
            case measure => simp [intOf]; omega
          | true =>
            cases d3 : decide (t1 * u2 < u1 * t2) with
            | true =>
              have HN := Lib.hid (HLESS.out (of_decide_eq_true d1) (of_decide_eq_true d3))
              clear HWORN HLESS HNOT hp1 hp2 hat hau
              go_wp2_with fail
              go_quiet (fail)
              go_wp2
              go_roundw
              case rel => exact ⟨k + 1, by omega, by go_num, by rw [HN.out], Below.drewN' HBEL.out _⟩
              case measure => simp [intOf]; omega
            | false =>
              have HN := Lib.hid (HNOT.out (of_decide_eq_false d3))
              clear HWORN HLESS HNOT hp1 hp2 hat hau
              go_wp2_with fail
              go_quiet (fail)
              go_wp2
              go_roundw
              case rel => exact ⟨k + 1, by omega, by go_num, by rw [HN.out], Below.drewN' HBEL.out _⟩
              case measure => simp [intOf]; omega
      · have hkn : k = n0 := by omega
        subst hkn
        by_cases hneg : nextAt ts0 k = -1
        · have HR : Hid (nextOf ts0 = (0, 3)) := nextOf_none HV.out hn0.out hneg
          rw [hneg]
          clear hneg hbd
          go_wp2
          go_ret2
          rw [HR.out]
          exact ⟨rfl, HBEL.out⟩
        · obtain ⟨m, hm⟩ : ∃ m : Nat, nextAt ts0 k = (m : Int) := ⟨(nextAt ts0 k).toNat, by omega⟩
          have HR : Hid (nextOf ts0 = ((m : Int), 0)) := nextOf_some HV.out hn0.out hm
          rw [hm]
          clear hm hneg hbd
          have hm0 : ¬ (m : Int) < 0 := by omega
          go_wp2
          go_ret2
          rw [HR.out]
          exact ⟨rfl, HBEL.out⟩
theorem keepS {w1 w2 : World} {p : Addr} {v : Value} (hb : Below w1.heap.size w1 w2) (h : w1.cell? p = some v) : w2.cell? p = some v := (hb.cell (World.block_lt_of_cell? w1 p h)).trans h
theorem share_any (x y : Int) (w : World) : Calls Try.prog 45 #[.agg #[.int .i64 x, .int .i64 y]] w fun e w' => e = .returned (.agg #[.int .i64 x, .int .i64 y]) ∧ Below w.heap.size w w' := by
  go_enter Try.func45, Try.ntmps45
  go_wp2
  exact bodyPost_ret (v := .agg #[.int .i64 x, .int .i64 y]) (by simp [results, Try.results45, go_sem]) rfl ⟨rfl, (by repeat (first | exact Below.refl _ _ | refine Below.alloc ?_ (by simp; try omega) _ | refine Below.setCell ?_ (by simp; try omega) _))⟩
theorem isLess_any (p q r s : Int) (w : World) (h1 : 0 ≤ p * s) (h2 : p * s ≤ 1152921504606846976) (h3 : 0 ≤ r * q) (h4 : r * q ≤ 1152921504606846976) : Calls Try.prog 46 #[.agg #[.int .i64 p, .int .i64 q], .agg #[.int .i64 r, .int .i64 s]] w fun e w' => e = .returned (.bool (decide (p * s < r * q))) ∧ Below w.heap.size w w' := by
  by_cases h : p * s < r * q
  all_goals
    go_enter Try.func46, Try.ntmps46
    go_wp2
    go_ret
    exact ⟨ret_bool (by simp [h]), (by repeat (first | exact Below.refl _ _ | refine Below.drew ?_ | refine Below.drewN' ?_ _ | refine Below.alloc ?_ (by first | omega | (simp; try omega)) _ | refine Below.setCell ?_ (by first | omega | (simp; try omega)) _))⟩

set_option maxHeartbeats 8000000 in
theorem implNextCarrier_any (w : World) {a0 : Option Addr} {n0 c0 : Nat} (ts0 : List TSeal) (hn0 : Hid (ts0.length = n0)) (h0 : RR 2 cSeal w a0 ts0) (hs0 : n0 ≤ 1048576) (_wf0 : Hid (∀ t ∈ ts0, wfSeal t)) :
    Calls Try.prog 19 #[.slice a0 n0 c0] w fun e w' => e = .returned (.tuple #[.int .i64 (nextOf ts0).1, .int .i64 (nextOf ts0).2]) ∧ Below w.heap.size w w' := by
  have HA : Hid (∀ w', Below w.heap.size w w' → RR 2 cSeal w' a0 ts0) := fun w' h => h0.below h
  have SE := checkSeals_any a0 ts0 n0 c0 w hn0 h0 hs0
  clear h0
  cases hv : slB ts0 with
  | false =>
    have HC : scode ts0 = 1 := by unfold scode; rw [hv]; rfl
    rw [HC] at SE
    have HR := Lib.hid (nextOf_bad hv)
    clear hv HC
    go_enter Try.func19, Try.ntmps19
    go_wp2_with (go_at_call 42; refine SE.mono ?_; rintro e w1 ⟨rfl, hb1⟩)
    go_ret2
    rw [HR.out]
    exact ⟨rfl, hb1⟩
  | true =>
    have HC : scode ts0 = 0 := by unfold scode; rw [hv]; rfl
    have HV := Lib.hid hv
    rw [HC] at SE
    have hfew : n0 ≤ 60 := by have := slB_few hv; rw [hn0.out] at this; exact this
    clear hv HC
    go_enter Try.func19, Try.ntmps19
    go_wp2_with (go_at_call 42; refine SE.mono ?_; rintro e w1 ⟨rfl, hb1⟩)
    have HB1 := Lib.hid hb1
    clear hb1 SE
    go_loopw [5, 15] (fun bv iv wr => ∃ k : Nat, k ≤ n0 ∧ iv = .int .i64 k ∧ bv = .int .i64 (nextAt ts0 k) ∧ Hid (Below w.heap.size w wr)) (fun _ iv _ => n0 - (intOf iv).toNat)
    case atStart => exact ⟨0, by omega, rfl, rfl, HB1⟩
    case round =>
      obtain ⟨k, hk, rfl, rfl, HBEL⟩ := hrel
      have hbd := nextAt_bd ts0 k
      have hws := HBEL.out.size
      by_cases hlt : k < n0
      · have hka : k < ts0.length := by rw [hn0.out]; exact hlt
        have HWORN : Hid (¬ ts0[k].1 < ts0[k].2 → nextAt ts0 (k + 1) = nextAt ts0 k) := fun h => nextAt_worn hka h
        have HFIRST : Hid (ts0[k].1 < ts0[k].2 → nextAt ts0 k = -1 → nextAt ts0 (k + 1) = (k : Int)) := fun h h2 => nextAt_first hka h h2
        have hat := slB_at HV.out k hka
        obtain ⟨b, off, rfl, _, hc⟩ := (HA.out _ HBEL.out).at_ k hka
        have x0 := hc 0 _ rfl
        have x1 := hc 1 _ rfl
        simp only [Nat.add_zero] at x0
        clear hc
        have hk0 : (0 : Int) ≤ (k : Int) := by omega
        have hk1 : (k : Int) < (n0 : Int) := by omega
        by_cases e5 : ts0[k].1 = ts0[k].2
        · have HN := Lib.hid (HWORN.out (by omega))
          clear HWORN HFIRST
          generalize ts0[k] = t at x0 x1 e5 hat
          obtain ⟨t1, t2⟩ := t
          dsimp only at x0 x1 e5 hat
          have IW := fun W => isWorn_any t1 t2 W
          have e6 : t1 = t2 := e5
          generalize nextAt ts0 k = q at HN hbd
          clear e5 hat
          simp only [decide_eq_true e6] at IW
          clear e6
          go_wp2_with fail
          refine wp_region_held_drew (S := (fun w' => Hid (Below w.heap.size w w') ∧ w'.cell? ⟨wr.heap.size, 0, none⟩ = some (.int .i64 t1) ∧ w'.cell? ⟨wr.heap.size, 1, none⟩ = some (.int .i64 t2))) (by kernel_rfl) ?_ (fun hHeld => ?_)
          · (try dsimp only); exact ⟨Lib.hid (Below.drew (by repeat (first | exact HBEL.out | refine Below.alloc ?_ (by first | omega | (simp; done) | (simp; omega)) _ | refine Below.setCell ?_ (by first | omega | (simp; done) | (simp; omega)) _))), by simp [go_sem], by simp [go_sem]⟩
          refine takeL (i := 0) (v := ?_) rfl (by kernel_rfl) (by kernel_rfl) (by kernel_rfl) (fun _ _ _ h => h) (Or.inl ⟨by rfl, ?_⟩) hHeld ?_
          rotate_left
          · intro w hSw; (try dsimp only at hSw); go_simp; (try with_reducible rfl)
          (try simp only [Act.put, List.setIfInBounds_toArray, List.set_cons_zero, List.set_cons_succ])
          refine wpAnyH_ready (rs := [1]) (by kernel_rfl) (by simp) ?_
          refine readyL rfl (fun K hK => ?_) AllReadyH.nil
          go_simp
          go_at_call 43; refine (IW _).mono ?_; rintro e w2 ⟨rfl, hb2⟩
          refine hK.out _ _ ?_ (fun hHeld => ?_)
          · (try dsimp only); exact ⟨two_worlds hHeld.1.out hb2, keepS hb2 hHeld.2.1, keepS hb2 hHeld.2.2⟩
          clear hK K
          (try simp only [Act.put, List.setIfInBounds_toArray, List.set_cons_zero, List.set_cons_succ])
          refine takeL (i := 2) (v := ?_) rfl (by kernel_rfl) (by kernel_rfl) (by kernel_rfl) (fun _ _ _ h => h) (Or.inl ⟨by rfl, ?_⟩) hHeld ?_
          rotate_left
          · intro w hSw; (try dsimp only at hSw); go_simp; (try with_reducible rfl)
          (try simp only [Act.put, List.setIfInBounds_toArray, List.set_cons_zero, List.set_cons_succ])
          refine takeL (i := 3) (v := ?_) rfl (by kernel_rfl) (by kernel_rfl) (by kernel_rfl) (fun _ _ _ h => h) (Or.inl ⟨by rfl, ?_⟩) hHeld ?_
          rotate_left
          · intro w hSw; (try dsimp only at hSw); go_simp; (try with_reducible rfl)
          (try simp only [Act.put, List.setIfInBounds_toArray, List.set_cons_zero, List.set_cons_succ])
          refine takeL (i := 4) (v := undef) rfl (by kernel_rfl) (by kernel_rfl) (by kernel_rfl) (fun _ _ _ h => h) (Or.inr ⟨by rfl, rfl⟩) hHeld ?_
          (try simp only [Act.put, List.setIfInBounds_toArray, List.set_cons_zero, List.set_cons_succ])
          refine takeL (i := 5) (v := undef) rfl (by kernel_rfl) (by kernel_rfl) (by kernel_rfl) (fun _ _ _ h => h) (Or.inr ⟨by rfl, rfl⟩) hHeld ?_
          (try simp only [Act.put, List.setIfInBounds_toArray, List.set_cons_zero, List.set_cons_succ])
          refine takeL (i := 6) (v := undef) rfl (by kernel_rfl) (by kernel_rfl) (by kernel_rfl) (fun _ _ _ h => h) (Or.inr ⟨by rfl, rfl⟩) hHeld ?_
          (try simp only [Act.put, List.setIfInBounds_toArray, List.set_cons_zero, List.set_cons_succ])
          refine takeL (i := 7) (v := undef) rfl (by kernel_rfl) (by kernel_rfl) (by kernel_rfl) (fun _ _ _ h => h) (Or.inr ⟨by rfl, rfl⟩) hHeld ?_
          (try simp only [Act.put, List.setIfInBounds_toArray, List.set_cons_zero, List.set_cons_succ])
          refine takeL (i := 8) (v := undef) rfl (by kernel_rfl) (by kernel_rfl) (by kernel_rfl) (fun _ _ _ h => h) (Or.inr ⟨by rfl, rfl⟩) hHeld ?_
          (try simp only [Act.put, List.setIfInBounds_toArray, List.set_cons_zero, List.set_cons_succ])
          refine takeL (i := 9) (v := undef) rfl (by kernel_rfl) (by kernel_rfl) (by kernel_rfl) (fun _ _ _ h => h) (Or.inr ⟨by rfl, rfl⟩) hHeld ?_
          (try simp only [Act.put, List.setIfInBounds_toArray, List.set_cons_zero, List.set_cons_succ])
          refine takeL (i := 10) (v := undef) rfl (by kernel_rfl) (by kernel_rfl) (by kernel_rfl) (fun _ _ _ h => h) (Or.inr ⟨by rfl, rfl⟩) hHeld ?_
          (try simp only [Act.put, List.setIfInBounds_toArray, List.set_cons_zero, List.set_cons_succ])
          refine takeL (i := 11) (v := undef) rfl (by kernel_rfl) (by kernel_rfl) (by kernel_rfl) (fun _ _ _ h => h) (Or.inr ⟨by rfl, rfl⟩) hHeld ?_
          (try simp only [Act.put, List.setIfInBounds_toArray, List.set_cons_zero, List.set_cons_succ])
          refine takeL (i := 12) (v := undef) rfl (by kernel_rfl) (by kernel_rfl) (by kernel_rfl) (fun _ _ _ h => h) (Or.inr ⟨by rfl, rfl⟩) hHeld ?_
          (try simp only [Act.put, List.setIfInBounds_toArray, List.set_cons_zero, List.set_cons_succ])
          refine takeL (i := 13) (v := undef) rfl (by kernel_rfl) (by kernel_rfl) (by kernel_rfl) (fun _ _ _ h => h) (Or.inr ⟨by rfl, rfl⟩) hHeld ?_
          (try simp only [Act.put, List.setIfInBounds_toArray, List.set_cons_zero, List.set_cons_succ])
          refine takeL (i := 14) (v := undef) rfl (by kernel_rfl) (by kernel_rfl) (by kernel_rfl) (fun _ _ _ h => h) (Or.inr ⟨by rfl, rfl⟩) hHeld ?_
          (try simp only [Act.put, List.setIfInBounds_toArray, List.set_cons_zero, List.set_cons_succ])
          refine takeL (i := 15) (v := undef) rfl (by kernel_rfl) (by kernel_rfl) (by kernel_rfl) (fun _ _ _ h => h) (Or.inr ⟨by rfl, rfl⟩) hHeld ?_
          (try simp only [Act.put, List.setIfInBounds_toArray, List.set_cons_zero, List.set_cons_succ])
          refine takeL (i := 16) (v := ?_) rfl (by kernel_rfl) (by kernel_rfl) (by kernel_rfl) (fun _ _ _ h => h) (Or.inl ⟨by rfl, ?_⟩) hHeld ?_
          rotate_left
          · intro w hSw; (try dsimp only at hSw); go_simp; (try with_reducible rfl)
          (try simp only [Act.put, List.setIfInBounds_toArray, List.set_cons_zero, List.set_cons_succ])
          refine wpAnyH_done (by kernel_rfl) ?_ _
          go_wp2
          go_roundw
          case rel => exact ⟨k + 1, by omega, by go_num, by rw [HN.out], hHeld.1⟩
          case measure => simp [intOf]; omega
        · by_cases hneg : nextAt ts0 k = -1
          · have HN := Lib.hid (HFIRST.out (by omega) hneg)
            clear HWORN HFIRST
            generalize ts0[k] = t at x0 x1 e5 hat
            obtain ⟨t1, t2⟩ := t
            dsimp only at x0 x1 e5 hat
            have IW := fun W => isWorn_any t1 t2 W
            have e6 : ¬ t1 = t2 := e5
            rw [hneg]
            clear e5 hat hbd hneg
            simp only [decide_eq_false e6] at IW
            go_wp2_with fail
            refine wp_region_held_drew (S := (fun w' => Hid (Below w.heap.size w w') ∧ w'.cell? ⟨wr.heap.size, 0, none⟩ = some (.int .i64 t1) ∧ w'.cell? ⟨wr.heap.size, 1, none⟩ = some (.int .i64 t2))) (by kernel_rfl) ?_ (fun hHeld => ?_)
            · (try dsimp only); exact ⟨Lib.hid (Below.drew (by repeat (first | exact HBEL.out | refine Below.alloc ?_ (by first | omega | (simp; done) | (simp; omega)) _ | refine Below.setCell ?_ (by first | omega | (simp; done) | (simp; omega)) _))), by simp [go_sem], by simp [go_sem]⟩
            refine takeL (i := 0) (v := ?_) rfl (by kernel_rfl) (by kernel_rfl) (by kernel_rfl) (fun _ _ _ h => h) (Or.inl ⟨by rfl, ?_⟩) hHeld ?_
            rotate_left
            · intro w hSw; (try dsimp only at hSw); go_simp; (try with_reducible rfl)
            (try simp only [Act.put, List.setIfInBounds_toArray, List.set_cons_zero, List.set_cons_succ])
            refine wpAnyH_ready (rs := [1]) (by kernel_rfl) (by simp) ?_
            refine readyL rfl (fun K hK => ?_) AllReadyH.nil
            go_simp
            go_at_call 43; refine (IW _).mono ?_; rintro e w2 ⟨rfl, hb2⟩
            refine hK.out _ _ ?_ (fun hHeld => ?_)
            · (try dsimp only); exact ⟨two_worlds hHeld.1.out hb2, keepS hb2 hHeld.2.1, keepS hb2 hHeld.2.2⟩
            clear hK K
            (try simp only [Act.put, List.setIfInBounds_toArray, List.set_cons_zero, List.set_cons_succ])
            refine takeL (i := 2) (v := ?_) rfl (by kernel_rfl) (by kernel_rfl) (by kernel_rfl) (fun _ _ _ h => h) (Or.inl ⟨by rfl, ?_⟩) hHeld ?_
            rotate_left
            · intro w hSw; (try dsimp only at hSw); go_simp; (try with_reducible rfl)
            (try simp only [Act.put, List.setIfInBounds_toArray, List.set_cons_zero, List.set_cons_succ])
            refine takeL (i := 3) (v := ?_) rfl (by kernel_rfl) (by kernel_rfl) (by kernel_rfl) (fun _ _ _ h => h) (Or.inl ⟨by rfl, ?_⟩) hHeld ?_
            rotate_left
            · intro w hSw; (try dsimp only at hSw); go_simp; (try with_reducible rfl)
            (try simp only [Act.put, List.setIfInBounds_toArray, List.set_cons_zero, List.set_cons_succ])
            refine takeL (i := 4) (v := ?_) rfl (by kernel_rfl) (by kernel_rfl) (by kernel_rfl) (fun _ _ _ h => h) (Or.inl ⟨by rfl, ?_⟩) hHeld ?_
            rotate_left
            · intro w hSw; (try dsimp only at hSw); go_simp; (try with_reducible rfl)
            (try simp only [Act.put, List.setIfInBounds_toArray, List.set_cons_zero, List.set_cons_succ])
            refine takeL (i := 5) (v := ?_) rfl (by kernel_rfl) (by kernel_rfl) (by kernel_rfl) (fun _ _ _ h => h) (Or.inl ⟨by rfl, ?_⟩) hHeld ?_
            rotate_left
            · intro w hSw; (try dsimp only at hSw); go_simp; (try with_reducible rfl)
            (try simp only [Act.put, List.setIfInBounds_toArray, List.set_cons_zero, List.set_cons_succ])
            refine takeL (i := 6) (v := ?_) rfl (by kernel_rfl) (by kernel_rfl) (by kernel_rfl) (fun _ _ _ h => h) (Or.inl ⟨by rfl, ?_⟩) hHeld ?_
            rotate_left
            · intro w hSw; (try dsimp only at hSw); go_simp; (try with_reducible rfl)
            (try simp only [Act.put, List.setIfInBounds_toArray, List.set_cons_zero, List.set_cons_succ])
            refine takeL (i := 7) (v := undef) rfl (by kernel_rfl) (by kernel_rfl) (by kernel_rfl) (fun _ _ _ h => h) (Or.inr ⟨by rfl, rfl⟩) hHeld ?_
            (try simp only [Act.put, List.setIfInBounds_toArray, List.set_cons_zero, List.set_cons_succ])
            refine takeL (i := 8) (v := undef) rfl (by kernel_rfl) (by kernel_rfl) (by kernel_rfl) (fun _ _ _ h => h) (Or.inr ⟨by rfl, rfl⟩) hHeld ?_
            (try simp only [Act.put, List.setIfInBounds_toArray, List.set_cons_zero, List.set_cons_succ])
            refine takeL (i := 9) (v := undef) rfl (by kernel_rfl) (by kernel_rfl) (by kernel_rfl) (fun _ _ _ h => h) (Or.inr ⟨by rfl, rfl⟩) hHeld ?_
            (try simp only [Act.put, List.setIfInBounds_toArray, List.set_cons_zero, List.set_cons_succ])
            refine takeL (i := 10) (v := undef) rfl (by kernel_rfl) (by kernel_rfl) (by kernel_rfl) (fun _ _ _ h => h) (Or.inr ⟨by rfl, rfl⟩) hHeld ?_
            (try simp only [Act.put, List.setIfInBounds_toArray, List.set_cons_zero, List.set_cons_succ])
            refine takeL (i := 11) (v := undef) rfl (by kernel_rfl) (by kernel_rfl) (by kernel_rfl) (fun _ _ _ h => h) (Or.inr ⟨by rfl, rfl⟩) hHeld ?_
            (try simp only [Act.put, List.setIfInBounds_toArray, List.set_cons_zero, List.set_cons_succ])
            refine takeL (i := 12) (v := undef) rfl (by kernel_rfl) (by kernel_rfl) (by kernel_rfl) (fun _ _ _ h => h) (Or.inr ⟨by rfl, rfl⟩) hHeld ?_
            (try simp only [Act.put, List.setIfInBounds_toArray, List.set_cons_zero, List.set_cons_succ])
            refine takeL (i := 13) (v := undef) rfl (by kernel_rfl) (by kernel_rfl) (by kernel_rfl) (fun _ _ _ h => h) (Or.inr ⟨by rfl, rfl⟩) hHeld ?_
            (try simp only [Act.put, List.setIfInBounds_toArray, List.set_cons_zero, List.set_cons_succ])
            refine takeL (i := 14) (v := undef) rfl (by kernel_rfl) (by kernel_rfl) (by kernel_rfl) (fun _ _ _ h => h) (Or.inr ⟨by rfl, rfl⟩) hHeld ?_
            (try simp only [Act.put, List.setIfInBounds_toArray, List.set_cons_zero, List.set_cons_succ])
            refine takeL (i := 15) (v := ?_) rfl (by kernel_rfl) (by kernel_rfl) (by kernel_rfl) (fun _ _ _ h => h) (Or.inl ⟨by rfl, ?_⟩) hHeld ?_
            rotate_left
            · intro w hSw; (try dsimp only at hSw); go_simp; (try with_reducible rfl)
            (try simp only [Act.put, List.setIfInBounds_toArray, List.set_cons_zero, List.set_cons_succ])
            refine takeL (i := 16) (v := ?_) rfl (by kernel_rfl) (by kernel_rfl) (by kernel_rfl) (fun _ _ _ h => h) (Or.inl ⟨by rfl, ?_⟩) hHeld ?_
            rotate_left
            · intro w hSw; (try dsimp only at hSw); go_simp; (try with_reducible rfl)
            (try simp only [Act.put, List.setIfInBounds_toArray, List.set_cons_zero, List.set_cons_succ])
            refine wpAnyH_done (by kernel_rfl) ?_ _
            go_wp2
            go_roundw
            case rel => exact ⟨k + 1, by omega, by go_num, by rw [HN.out], hHeld.1⟩
            case measure => simp [intOf]; omega
          · obtain ⟨m, hm⟩ : ∃ m : Nat, nextAt ts0 k = (m : Int) := ⟨(nextAt ts0 k).toNat, by omega⟩
            have hmk : m < k := by omega
            have hma : m < ts0.length := by omega
            have HLESS : Hid (ts0[k].1 * ts0[m].2 < ts0[m].1 * ts0[k].2 → nextAt ts0 (k + 1) = (k : Int)) := fun h3 => nextAt_less hka hma (by omega) hm h3
            have HNOT : Hid (¬ ts0[k].1 * ts0[m].2 < ts0[m].1 * ts0[k].2 → nextAt ts0 (k + 1) = (m : Int)) := fun h3 => nextAt_not hka hma hm h3
            have hau := slB_at HV.out m hma
            obtain ⟨b2, off2, hbe, hbl2, hc2⟩ := (HA.out _ HBEL.out).at_ m hma
            injection hbe with hbe
            injection hbe with e1 e2
            subst e1 e2
            have y0 := hc2 0 _ rfl
            have y1 := hc2 1 _ rfl
            simp only [Nat.add_zero] at y0
            clear hc2 HFIRST HWORN hneg
            rw [hm]
            clear hm hbd
            generalize ts0[k] = t at x0 x1 HLESS HNOT hat e5
            generalize ts0[m] = u at y0 y1 HLESS HNOT hau
            obtain ⟨t1, t2⟩ := t
            obtain ⟨u1, u2⟩ := u
            dsimp only at x0 x1 y0 y1 HLESS HNOT hat hau e5
            have hm0 : (0 : Int) ≤ (m : Int) := by omega
            have hm1 : (m : Int) < (n0 : Int) := by omega
            have dm : decide ((m : Int) < 0) = false := decide_eq_false (by omega)
            have hp1 := mul_bd (a := t1) (b := u2) (by omega) (by omega) (by omega) (by omega)
            have hp2 := mul_bd (a := u1) (b := t2) (by omega) (by omega) (by omega) (by omega)
            have IW := fun W => isWorn_any t1 t2 W
            have e6 : ¬ t1 = t2 := e5
            simp only [decide_eq_false e6] at IW
            have IL := fun W => isLess_any t1 t2 u1 u2 W (by omega) (by omega) (by omega) (by omega)
            have yy0 := keepS (show Below wr.heap.size wr ((wr.alloc (.cells #[.int .i64 t1, .int .i64 t2] 54)).drew) from (by (repeat (first | exact Below.refl _ _ | refine Below.drew ?_ | refine Below.drewN' ?_ _ | refine Below.alloc ?_ (by first | (simp; done) | (simp; omega)) _ | refine Below.setCell ?_ (by first | (simp; done) | (simp; omega)) _)); done)) y0
            have yy1 := keepS (show Below wr.heap.size wr ((wr.alloc (.cells #[.int .i64 t1, .int .i64 t2] 54)).drew) from (by (repeat (first | exact Below.refl _ _ | refine Below.drew ?_ | refine Below.drewN' ?_ _ | refine Below.alloc ?_ (by first | (simp; done) | (simp; omega)) _ | refine Below.setCell ?_ (by first | (simp; done) | (simp; omega)) _)); done)) y1
            clear e5 hp1 hp2 hat hau
            by_cases d3 : t1 * u2 < u1 * t2
            · have HN := Lib.hid (HLESS.out d3)
              simp only [decide_eq_true d3] at IL
              clear HLESS HNOT d3
              go_wp2_with fail
              refine wp_region_held_drew (S := (fun w' => Hid (Below w.heap.size w w') ∧ w'.cell? ⟨wr.heap.size, 0, none⟩ = some (.int .i64 t1) ∧ w'.cell? ⟨wr.heap.size, 1, none⟩ = some (.int .i64 t2) ∧ w'.cell? ⟨b, off + m * 2, none⟩ = some (.int .i64 u1) ∧ w'.cell? ⟨b, off + m * 2 + 1, none⟩ = some (.int .i64 u2))) (by kernel_rfl) ?_ (fun hHeld => ?_)
              · (try dsimp only); exact ⟨Lib.hid (Below.drew (by repeat (first | exact HBEL.out | refine Below.alloc ?_ (by first | omega | (simp; done) | (simp; omega)) _ | refine Below.setCell ?_ (by first | omega | (simp; done) | (simp; omega)) _))), by simp [go_sem], by simp [go_sem], yy0, yy1⟩
              refine takeL (i := 0) (v := ?_) rfl (by kernel_rfl) (by kernel_rfl) (by kernel_rfl) (fun _ _ _ h => h) (Or.inl ⟨by rfl, ?_⟩) hHeld ?_
              rotate_left
              · intro w hSw; (try dsimp only at hSw); go_simp; (try with_reducible rfl)
              (try simp only [Act.put, List.setIfInBounds_toArray, List.set_cons_zero, List.set_cons_succ])
              refine wpAnyH_ready (rs := [1]) (by kernel_rfl) (by simp) ?_
              refine readyL rfl (fun K hK => ?_) AllReadyH.nil
              go_simp
              go_at_call 43; refine (IW _).mono ?_; rintro e w2 ⟨rfl, hb2⟩
              refine hK.out _ _ ?_ (fun hHeld => ?_)
              · (try dsimp only); exact ⟨two_worlds hHeld.1.out hb2, keepS hb2 hHeld.2.1, keepS hb2 hHeld.2.2.1, keepS hb2 hHeld.2.2.2.1, keepS hb2 hHeld.2.2.2.2⟩
              clear hK K
              (try simp only [Act.put, List.setIfInBounds_toArray, List.set_cons_zero, List.set_cons_succ])
              refine takeL (i := 2) (v := ?_) rfl (by kernel_rfl) (by kernel_rfl) (by kernel_rfl) (fun _ _ _ h => h) (Or.inl ⟨by rfl, ?_⟩) hHeld ?_
              rotate_left
              · intro w hSw; (try dsimp only at hSw); go_simp; (try with_reducible rfl)
              (try simp only [Act.put, List.setIfInBounds_toArray, List.set_cons_zero, List.set_cons_succ])
              refine takeL (i := 3) (v := ?_) rfl (by kernel_rfl) (by kernel_rfl) (by kernel_rfl) (fun _ _ _ h => h) (Or.inl ⟨by rfl, ?_⟩) hHeld ?_
              rotate_left
              · intro w hSw; (try dsimp only at hSw); go_simp; (try with_reducible rfl)
              (try simp only [Act.put, List.setIfInBounds_toArray, List.set_cons_zero, List.set_cons_succ])
              refine takeL (i := 4) (v := ?_) rfl (by kernel_rfl) (by kernel_rfl) (by kernel_rfl) (fun _ _ _ h => h) (Or.inl ⟨by rfl, ?_⟩) hHeld ?_
              rotate_left
              · intro w hSw; (try dsimp only at hSw); go_simp; (try with_reducible rfl)
              (try simp only [Act.put, List.setIfInBounds_toArray, List.set_cons_zero, List.set_cons_succ])
              refine takeL (i := 5) (v := ?_) rfl (by kernel_rfl) (by kernel_rfl) (by kernel_rfl) (fun _ _ _ h => h) (Or.inl ⟨by rfl, ?_⟩) hHeld ?_
              rotate_left
              · intro w hSw; (try dsimp only at hSw); go_simp; (try with_reducible rfl)
              (try simp only [Act.put, List.setIfInBounds_toArray, List.set_cons_zero, List.set_cons_succ])
              refine takeL (i := 6) (v := ?_) rfl (by kernel_rfl) (by kernel_rfl) (by kernel_rfl) (fun _ _ _ h => h) (Or.inl ⟨by rfl, ?_⟩) hHeld ?_
              rotate_left
              · intro w hSw; (try dsimp only at hSw); go_simp; (try with_reducible rfl)
              (try simp only [Act.put, List.setIfInBounds_toArray, List.set_cons_zero, List.set_cons_succ])
              refine takeL (i := 7) (v := ?_) rfl (by kernel_rfl) (by kernel_rfl) (by kernel_rfl) (fun _ _ _ h => h) (Or.inl ⟨by rfl, ?_⟩) hHeld ?_
              rotate_left
              · intro w hSw; (try dsimp only at hSw); go_simp; (try with_reducible rfl)
              (try simp only [Act.put, List.setIfInBounds_toArray, List.set_cons_zero, List.set_cons_succ])
              refine takeL (i := 9) (v := ?_) rfl (by kernel_rfl) (by kernel_rfl) (by kernel_rfl) (fun _ _ _ h => h) (Or.inl ⟨by rfl, ?_⟩) hHeld ?_
              rotate_left
              · intro w hSw; (try dsimp only at hSw); go_simp; (try with_reducible rfl)
              (try simp only [Act.put, List.setIfInBounds_toArray, List.set_cons_zero, List.set_cons_succ])
              refine takeL (i := 10) (v := ?_) rfl (by kernel_rfl) (by kernel_rfl) (by kernel_rfl) (fun _ _ _ h => h) (Or.inl ⟨by rfl, ?_⟩) hHeld ?_
              rotate_left
              · intro w hSw; (try dsimp only at hSw); go_simp; (try with_reducible rfl)
              (try simp only [Act.put, List.setIfInBounds_toArray, List.set_cons_zero, List.set_cons_succ])
              refine takeL (i := 11) (v := ?_) rfl (by kernel_rfl) (by kernel_rfl) (by kernel_rfl) (fun _ _ _ h => h) (Or.inl ⟨by rfl, ?_⟩) hHeld ?_
              rotate_left
              · intro w hSw; (try dsimp only at hSw); go_simp; (try with_reducible rfl)
              (try simp only [Act.put, List.setIfInBounds_toArray, List.set_cons_zero, List.set_cons_succ])
              refine takeL (i := 12) (v := ?_) rfl (by kernel_rfl) (by kernel_rfl) (by kernel_rfl) (fun _ _ _ h => h) (Or.inl ⟨by rfl, ?_⟩) hHeld ?_
              rotate_left
              · intro w hSw; (try dsimp only at hSw); go_simp; (try with_reducible rfl)
              (try simp only [Act.put, List.setIfInBounds_toArray, List.set_cons_zero, List.set_cons_succ])
              refine wpAnyH_ready (rs := [8]) (by kernel_rfl) (by simp) ?_
              refine readyL rfl (fun K hK => ?_) AllReadyH.nil
              go_simp
              go_at_call 45; refine (share_any t1 t2 _).mono ?_; rintro e w2 ⟨rfl, hb2⟩
              refine hK.out _ _ ?_ (fun hHeld => ?_)
              · (try dsimp only); exact ⟨two_worlds hHeld.1.out hb2, keepS hb2 hHeld.2.1, keepS hb2 hHeld.2.2.1, keepS hb2 hHeld.2.2.2.1, keepS hb2 hHeld.2.2.2.2⟩
              clear hK K
              (try simp only [Act.put, List.setIfInBounds_toArray, List.set_cons_zero, List.set_cons_succ])
              refine wpAnyH_ready (rs := [13]) (by kernel_rfl) (by simp) ?_
              refine readyL rfl (fun K hK => ?_) AllReadyH.nil
              go_simp
              (go_at_call 45; refine (share_any u1 u2 _).mono ?_; rintro e w2 ⟨rfl, hb2⟩)
              refine hK.out _ _ ?_ (fun hHeld => ?_)
              · (try dsimp only); exact ⟨two_worlds hHeld.1.out hb2, keepS hb2 hHeld.2.1, keepS hb2 hHeld.2.2.1, keepS hb2 hHeld.2.2.2.1, keepS hb2 hHeld.2.2.2.2⟩
              clear hK K
              (try simp only [Act.put, List.setIfInBounds_toArray, List.set_cons_zero, List.set_cons_succ])
              refine wpAnyH_ready (rs := [14]) (by kernel_rfl) (by simp) ?_
              refine readyL rfl (fun K hK => ?_) AllReadyH.nil
              go_simp
              go_at_call 46; refine (IL _).mono ?_; rintro e w2 ⟨rfl, hb2⟩
              refine hK.out _ _ ?_ (fun hHeld => ?_)
              · (try dsimp only); exact ⟨two_worlds hHeld.1.out hb2, keepS hb2 hHeld.2.1, keepS hb2 hHeld.2.2.1, keepS hb2 hHeld.2.2.2.1, keepS hb2 hHeld.2.2.2.2⟩
              clear hK K
              (try simp only [Act.put, List.setIfInBounds_toArray, List.set_cons_zero, List.set_cons_succ])
              refine takeL (i := 15) (v := ?_) rfl (by kernel_rfl) (by kernel_rfl) (by kernel_rfl) (fun _ _ _ h => h) (Or.inl ⟨by rfl, ?_⟩) hHeld ?_
              rotate_left
              · intro w hSw; (try dsimp only at hSw); go_simp; (try with_reducible rfl)
              (try simp only [Act.put, List.setIfInBounds_toArray, List.set_cons_zero, List.set_cons_succ])
              refine takeL (i := 16) (v := ?_) rfl (by kernel_rfl) (by kernel_rfl) (by kernel_rfl) (fun _ _ _ h => h) (Or.inl ⟨by rfl, ?_⟩) hHeld ?_
              rotate_left
              · intro w hSw; (try dsimp only at hSw); go_simp; (try with_reducible rfl)
              (try simp only [Act.put, List.setIfInBounds_toArray, List.set_cons_zero, List.set_cons_succ])
              refine wpAnyH_done (by kernel_rfl) ?_ _
              go_wp2
              go_roundw
              case rel => exact ⟨k + 1, by omega, by go_num, by rw [HN.out], hHeld.1⟩
              case measure => simp [intOf]; omega
            · have HN := Lib.hid (HNOT.out d3)
              simp only [decide_eq_false d3] at IL
              clear HLESS HNOT d3
              go_wp2_with fail
              refine wp_region_held_drew (S := (fun w' => Hid (Below w.heap.size w w') ∧ w'.cell? ⟨wr.heap.size, 0, none⟩ = some (.int .i64 t1) ∧ w'.cell? ⟨wr.heap.size, 1, none⟩ = some (.int .i64 t2) ∧ w'.cell? ⟨b, off + m * 2, none⟩ = some (.int .i64 u1) ∧ w'.cell? ⟨b, off + m * 2 + 1, none⟩ = some (.int .i64 u2))) (by kernel_rfl) ?_ (fun hHeld => ?_)
              · (try dsimp only); exact ⟨Lib.hid (Below.drew (by repeat (first | exact HBEL.out | refine Below.alloc ?_ (by first | omega | (simp; done) | (simp; omega)) _ | refine Below.setCell ?_ (by first | omega | (simp; done) | (simp; omega)) _))), by simp [go_sem], by simp [go_sem], yy0, yy1⟩
              refine takeL (i := 0) (v := ?_) rfl (by kernel_rfl) (by kernel_rfl) (by kernel_rfl) (fun _ _ _ h => h) (Or.inl ⟨by rfl, ?_⟩) hHeld ?_
              rotate_left
              · intro w hSw; (try dsimp only at hSw); go_simp; (try with_reducible rfl)
              (try simp only [Act.put, List.setIfInBounds_toArray, List.set_cons_zero, List.set_cons_succ])
              refine wpAnyH_ready (rs := [1]) (by kernel_rfl) (by simp) ?_
              refine readyL rfl (fun K hK => ?_) AllReadyH.nil
              go_simp
              go_at_call 43; refine (IW _).mono ?_; rintro e w2 ⟨rfl, hb2⟩
              refine hK.out _ _ ?_ (fun hHeld => ?_)
              · (try dsimp only); exact ⟨two_worlds hHeld.1.out hb2, keepS hb2 hHeld.2.1, keepS hb2 hHeld.2.2.1, keepS hb2 hHeld.2.2.2.1, keepS hb2 hHeld.2.2.2.2⟩
              clear hK K
              (try simp only [Act.put, List.setIfInBounds_toArray, List.set_cons_zero, List.set_cons_succ])
              refine takeL (i := 2) (v := ?_) rfl (by kernel_rfl) (by kernel_rfl) (by kernel_rfl) (fun _ _ _ h => h) (Or.inl ⟨by rfl, ?_⟩) hHeld ?_
              rotate_left
              · intro w hSw; (try dsimp only at hSw); go_simp; (try with_reducible rfl)
              (try simp only [Act.put, List.setIfInBounds_toArray, List.set_cons_zero, List.set_cons_succ])
              refine takeL (i := 3) (v := ?_) rfl (by kernel_rfl) (by kernel_rfl) (by kernel_rfl) (fun _ _ _ h => h) (Or.inl ⟨by rfl, ?_⟩) hHeld ?_
              rotate_left
              · intro w hSw; (try dsimp only at hSw); go_simp; (try with_reducible rfl)
              (try simp only [Act.put, List.setIfInBounds_toArray, List.set_cons_zero, List.set_cons_succ])
              refine takeL (i := 4) (v := ?_) rfl (by kernel_rfl) (by kernel_rfl) (by kernel_rfl) (fun _ _ _ h => h) (Or.inl ⟨by rfl, ?_⟩) hHeld ?_
              rotate_left
              · intro w hSw; (try dsimp only at hSw); go_simp; (try with_reducible rfl)
              (try simp only [Act.put, List.setIfInBounds_toArray, List.set_cons_zero, List.set_cons_succ])
              refine takeL (i := 5) (v := ?_) rfl (by kernel_rfl) (by kernel_rfl) (by kernel_rfl) (fun _ _ _ h => h) (Or.inl ⟨by rfl, ?_⟩) hHeld ?_
              rotate_left
              · intro w hSw; (try dsimp only at hSw); go_simp; (try with_reducible rfl)
              (try simp only [Act.put, List.setIfInBounds_toArray, List.set_cons_zero, List.set_cons_succ])
              refine takeL (i := 6) (v := ?_) rfl (by kernel_rfl) (by kernel_rfl) (by kernel_rfl) (fun _ _ _ h => h) (Or.inl ⟨by rfl, ?_⟩) hHeld ?_
              rotate_left
              · intro w hSw; (try dsimp only at hSw); go_simp; (try with_reducible rfl)
              (try simp only [Act.put, List.setIfInBounds_toArray, List.set_cons_zero, List.set_cons_succ])
              refine takeL (i := 7) (v := ?_) rfl (by kernel_rfl) (by kernel_rfl) (by kernel_rfl) (fun _ _ _ h => h) (Or.inl ⟨by rfl, ?_⟩) hHeld ?_
              rotate_left
              · intro w hSw; (try dsimp only at hSw); go_simp; (try with_reducible rfl)
              (try simp only [Act.put, List.setIfInBounds_toArray, List.set_cons_zero, List.set_cons_succ])
              refine takeL (i := 9) (v := ?_) rfl (by kernel_rfl) (by kernel_rfl) (by kernel_rfl) (fun _ _ _ h => h) (Or.inl ⟨by rfl, ?_⟩) hHeld ?_
              rotate_left
              · intro w hSw; (try dsimp only at hSw); go_simp; (try with_reducible rfl)
              (try simp only [Act.put, List.setIfInBounds_toArray, List.set_cons_zero, List.set_cons_succ])
              refine takeL (i := 10) (v := ?_) rfl (by kernel_rfl) (by kernel_rfl) (by kernel_rfl) (fun _ _ _ h => h) (Or.inl ⟨by rfl, ?_⟩) hHeld ?_
              rotate_left
              · intro w hSw; (try dsimp only at hSw); go_simp; (try with_reducible rfl)
              (try simp only [Act.put, List.setIfInBounds_toArray, List.set_cons_zero, List.set_cons_succ])
              refine takeL (i := 11) (v := ?_) rfl (by kernel_rfl) (by kernel_rfl) (by kernel_rfl) (fun _ _ _ h => h) (Or.inl ⟨by rfl, ?_⟩) hHeld ?_
              rotate_left
              · intro w hSw; (try dsimp only at hSw); go_simp; (try with_reducible rfl)
              (try simp only [Act.put, List.setIfInBounds_toArray, List.set_cons_zero, List.set_cons_succ])
              refine takeL (i := 12) (v := ?_) rfl (by kernel_rfl) (by kernel_rfl) (by kernel_rfl) (fun _ _ _ h => h) (Or.inl ⟨by rfl, ?_⟩) hHeld ?_
              rotate_left
              · intro w hSw; (try dsimp only at hSw); go_simp; (try with_reducible rfl)
              (try simp only [Act.put, List.setIfInBounds_toArray, List.set_cons_zero, List.set_cons_succ])
              refine wpAnyH_ready (rs := [8]) (by kernel_rfl) (by simp) ?_
              refine readyL rfl (fun K hK => ?_) AllReadyH.nil
              go_simp
              go_at_call 45; refine (share_any t1 t2 _).mono ?_; rintro e w2 ⟨rfl, hb2⟩
              refine hK.out _ _ ?_ (fun hHeld => ?_)
              · (try dsimp only); exact ⟨two_worlds hHeld.1.out hb2, keepS hb2 hHeld.2.1, keepS hb2 hHeld.2.2.1, keepS hb2 hHeld.2.2.2.1, keepS hb2 hHeld.2.2.2.2⟩
              clear hK K
              (try simp only [Act.put, List.setIfInBounds_toArray, List.set_cons_zero, List.set_cons_succ])
              refine wpAnyH_ready (rs := [13]) (by kernel_rfl) (by simp) ?_
              refine readyL rfl (fun K hK => ?_) AllReadyH.nil
              go_simp
              (go_at_call 45; refine (share_any u1 u2 _).mono ?_; rintro e w2 ⟨rfl, hb2⟩)
              refine hK.out _ _ ?_ (fun hHeld => ?_)
              · (try dsimp only); exact ⟨two_worlds hHeld.1.out hb2, keepS hb2 hHeld.2.1, keepS hb2 hHeld.2.2.1, keepS hb2 hHeld.2.2.2.1, keepS hb2 hHeld.2.2.2.2⟩
              clear hK K
              (try simp only [Act.put, List.setIfInBounds_toArray, List.set_cons_zero, List.set_cons_succ])
              refine wpAnyH_ready (rs := [14]) (by kernel_rfl) (by simp) ?_
              refine readyL rfl (fun K hK => ?_) AllReadyH.nil
              go_simp
              go_at_call 46; refine (IL _).mono ?_; rintro e w2 ⟨rfl, hb2⟩
              refine hK.out _ _ ?_ (fun hHeld => ?_)
              · (try dsimp only); exact ⟨two_worlds hHeld.1.out hb2, keepS hb2 hHeld.2.1, keepS hb2 hHeld.2.2.1, keepS hb2 hHeld.2.2.2.1, keepS hb2 hHeld.2.2.2.2⟩
              clear hK K
              (try simp only [Act.put, List.setIfInBounds_toArray, List.set_cons_zero, List.set_cons_succ])
              refine takeL (i := 15) (v := ?_) rfl (by kernel_rfl) (by kernel_rfl) (by kernel_rfl) (fun _ _ _ h => h) (Or.inl ⟨by rfl, ?_⟩) hHeld ?_
              rotate_left
              · intro w hSw; (try dsimp only at hSw); go_simp; (try with_reducible rfl)
              (try simp only [Act.put, List.setIfInBounds_toArray, List.set_cons_zero, List.set_cons_succ])
              refine takeL (i := 16) (v := ?_) rfl (by kernel_rfl) (by kernel_rfl) (by kernel_rfl) (fun _ _ _ h => h) (Or.inl ⟨by rfl, ?_⟩) hHeld ?_
              rotate_left
              · intro w hSw; (try dsimp only at hSw); go_simp; (try with_reducible rfl)
              (try simp only [Act.put, List.setIfInBounds_toArray, List.set_cons_zero, List.set_cons_succ])
              refine wpAnyH_done (by kernel_rfl) ?_ _
              go_wp2
              go_roundw
              case rel => exact ⟨k + 1, by omega, by go_num, by rw [HN.out], hHeld.1⟩
              case measure => simp [intOf]; omega
      · have hkn : k = n0 := by omega
        subst hkn
        by_cases hneg : nextAt ts0 k = -1
        · have HR : Hid (nextOf ts0 = (0, 3)) := nextOf_none HV.out hn0.out hneg
          rw [hneg]
          clear hneg hbd
          go_wp2
          go_ret2
          rw [HR.out]
          exact ⟨rfl, HBEL.out⟩
        · obtain ⟨m, hm⟩ : ∃ m : Nat, nextAt ts0 k = (m : Int) := ⟨(nextAt ts0 k).toNat, by omega⟩
          have HR : Hid (nextOf ts0 = ((m : Int), 0)) := nextOf_some HV.out hn0.out hm
          rw [hm]
          clear hm hneg hbd
          have hm0 : ¬ (m : Int) < 0 := by omega
          go_wp2
          go_ret2
          rw [HR.out]
          exact ⟨rfl, HBEL.out⟩
end Go.Proofs.Ytabopjdcpllocaa
