/-
  The codes of functions on zones: the model's (l09Code, l09Way, l09Tick, l09Least) and the program's (checkZoned, checkZone, checkLeast, checkZonedWay).
-/
import Derived.Test.YtghpefdleiebmaaZoneOk
namespace Go.Proofs.Ytghpefdleiebmaa
open Go.RowKit

/-- What a call is given: zones whose lists lie in memory. -/
structure ZArg (w : World) (a : Option Addr) (n : Nat) (b : Option Addr) (m : Nat) (t : TZoned) : Prop where
  hn : Hid (t.2.1.length = n)
  ha : RI w a t.2.1
  hs : n ≤ 1048576
  hm : Hid (t.2.2.length = m)
  hb : RR 3 cChange w b t.2.2
  hs2 : m ≤ 1048576
  wf : Hid (wfZoned t)
theorem ZArg.below {w w' : World} {a b : Option Addr} {n m : Nat} {t : TZoned} (h : ZArg w a n b m t) (hb : Below w.heap.size w w') : ZArg w' a n b m t := ⟨h.hn, h.ha.below hb, h.hs, h.hm, h.hb.below hb, h.hs2, h.wf⟩
theorem rangeCode_bad {c : Int} (h : ¬ c = 0) (x hi : Int) : rangeCode c x hi = c := by unfold rangeCode; rw [if_neg h]
noncomputable def zc (t : TZoned) : Int := if zonB t = true then 0 else 1
noncomputable def zoneC (t : TZoned) (z : Int) : Int := rangeCode (zc t) z (t.1 - 1)
noncomputable def leastC (t : TZoned) (z l : Int) : Int := if zoneC t z = 0 then (if inB l (-100) 100 = true then 0 else 2) else zoneC t z
noncomputable def wayC (t : TZoned) (way : List Int) : Int := if zc t = 0 then (if way.length ≤ 24 ∧ (way.all fun k => inB k 0 ((t.2.1.length : Int) - 1)) = true then 0 else 2) else zc t
theorem zc_yes {t : TZoned} (h : zonB t = true) : zc t = 0 := by unfold zc; rw [if_pos h]
theorem zc_no {t : TZoned} (h : zonB t = false) : zc t = 1 := by unfold zc; rw [h]; rfl
theorem zoneC_no {t : TZoned} (h : zonB t = false) (z : Int) : zoneC t z = 1 := by unfold zoneC; rw [zc_no h]; rfl
theorem zoneC_yes {t : TZoned} (h : zonB t = true) (z : Int) : zoneC t z = if inB z 0 (t.1 - 1) = true then 0 else 2 := by unfold zoneC rangeCode; rw [zc_yes h]; rfl
theorem zoneC_ok {t : TZoned} {z : Int} (h : zoneC t z = 0) : ZonP t ∧ 0 ≤ z ∧ z ≤ t.1 - 1 := by
  cases hz : zonB t with
  | false => rw [zoneC_no hz] at h; omega
  | true =>
    rw [zoneC_yes hz] at h
    refine ⟨zonB_of hz, ?_⟩
    by_cases hb : inB z 0 (t.1 - 1) = true
    · unfold inB at hb; simpa using hb
    · rw [if_neg hb] at h; omega
theorem zone_first {t : TZoned} : zoneC t 0 = zc t := by
  cases hz : zonB t with
  | false => rw [zoneC_no hz, zc_no hz]
  | true =>
    have := (zonB_of hz).1
    rw [zoneC_yes hz, zc_yes hz, if_pos (by unfold inB; simp; omega)]
theorem range_zero (c : Int) : rangeCode c 0 10000 = c := by
  unfold rangeCode
  by_cases h : c = 0
  · rw [if_pos h, if_pos (by decide), h]
  · rw [if_neg h]
theorem range_ok {c x hi : Int} (h : rangeCode c x hi = 0) : c = 0 ∧ 0 ≤ x ∧ x ≤ hi := by
  unfold rangeCode at h
  by_cases hc : c = 0
  · rw [if_pos hc] at h
    by_cases hb : inB x 0 hi = true
    · unfold inB at hb; exact ⟨hc, by simpa using hb⟩
    · rw [if_neg hb] at h; omega
  · rw [if_neg hc] at h; exact absurd h hc
/-- The order of two tests with one code is of no account. -/
theorem least_end (t : TZoned) (z l e : Int) : rangeCode (leastC t z l) e 10000 = if rangeCode (zoneC t z) e 10000 = 0 then (if inB l (-100) 100 = true then 0 else 2) else rangeCode (zoneC t z) e 10000 := by
  unfold leastC
  by_cases h : zoneC t z = 0
  · rw [if_pos h, h]
    unfold rangeCode
    by_cases h1 : inB l (-100) 100 = true <;> by_cases h2 : inB e 0 10000 = true <;> simp [h1, h2]
  · rw [if_neg h, rangeCode_bad h, if_neg h]

theorem l09Tick_any (x : Int) (w : World) : Calls Try.prog 57 #[.int .i64 x] w fun e w' => e = .returned (.bool (inB x 0 10000)) ∧ w = w' := by
  go_enter Try.func57, Try.ntmps57
  go_wp2_with (go_at_call 48; refine (l00In_any _ _ _ _).mono ?_; rintro e w' ⟨rfl, rfl⟩)
  go_ret
  exact ⟨rfl, rfl⟩
theorem l09Least_any (x : Int) (w : World) : Calls Try.prog 47 #[.int .i64 x] w fun e w' => e = .returned (.bool (inB x (-100) 100)) ∧ w = w' := by
  go_enter Try.func47, Try.ntmps47
  go_wp2_with (go_at_call 48; refine (l00In_any _ _ _ _).mono ?_; rintro e w' ⟨rfl, rfl⟩)
  go_ret
  exact ⟨rfl, rfl⟩
set_option maxHeartbeats 1000000 in
theorem l09Code_any (zb : Nat) (t : TZoned) (a b : Option Addr) (n c m d : Nat) (zone tick : Int) (w : World) (hz : ZArg w a n b m t)
    (p0 : w.cell? ⟨zb, 0, none⟩ = some (.int .i64 t.1)) (p1 : w.cell? ⟨zb, 1, none⟩ = some (.slice a n c)) (p2 : w.cell? ⟨zb, 2, none⟩ = some (.slice b m d)) :
    Calls Try.prog 46 #[.pointer (some ⟨zb, 0, none⟩), .int .i64 zone, .int .i64 tick] w fun e w' => e = .returned (.int .i64 (rangeCode (zoneC t zone) tick 10000)) ∧ Below w.heap.size w w' := by
  have OK := Lib.hid (l09Ok_any zb t a b n c m d w hz.hn hz.ha hz.hs hz.hm hz.hb hz.hs2 p0 p1 p2)
  have P0 : Hid (∀ w', Below w.heap.size w w' → w'.cell? ⟨zb, 0, none⟩ = some (.int .i64 t.1)) := fun w' h => keepS h p0
  clear hz p0 p1 p2
  cases hv : zonB t with
  | false =>
    rw [hv] at OK
    have HR : Hid (rangeCode (zoneC t zone) tick 10000 = 1) := by unfold Hid; rw [zoneC_no hv]; rfl
    clear hv
    go_enter Try.func46, Try.ntmps46
    go_wp2_with fail
    refine OK.out.mono ?_
    rintro e w1 ⟨rfl, hb1⟩
    go_wp2
    go_ret
    exact ⟨ret_int HR.out.symm, hb1⟩
  | true =>
    rw [hv] at OK
    have h18 := (zonB_of hv).1
    have h18' := (zonB_of hv).2.1
    have hw : IntKind.i64.wrap (t.1 - 1) = t.1 - 1 := IntWalk.i64_in _ (by omega)
    cases h1 : inB zone 0 (t.1 - 1) with
    | false =>
      have HR : Hid (rangeCode (zoneC t zone) tick 10000 = 2) := by unfold Hid; rw [zoneC_yes hv, h1]; rfl
      clear hv
      go_enter Try.func46, Try.ntmps46
      go_wp2_with fail
      refine OK.out.mono ?_
      rintro e w1 ⟨rfl, hb1⟩
      have p0 := P0.out _ hb1
      go_wp2_with (go_at_call 48; refine (l00In_any _ _ _ _).mono ?_; rintro e w' ⟨rfl, rfl⟩)
      go_ret
      exact ⟨ret_int HR.out.symm, hb1⟩
    | true =>
      have HR : Hid (rangeCode (zoneC t zone) tick 10000 = if inB tick 0 10000 = true then 0 else 2) := by unfold Hid; rw [zoneC_yes hv, h1]; rfl
      clear hv
      cases h2 : inB tick 0 10000 with
      | false =>
        rw [h2] at HR
        go_enter Try.func46, Try.ntmps46
        go_wp2_with fail
        refine OK.out.mono ?_
        rintro e w1 ⟨rfl, hb1⟩
        have p0 := P0.out _ hb1
        go_wp2_with (first | (go_at_call 48; refine (l00In_any _ _ _ _).mono ?_; rintro e w' ⟨rfl, rfl⟩) | (go_at_call 57; refine (l09Tick_any _ _).mono ?_; rintro e w' ⟨rfl, rfl⟩))
        go_ret
        exact ⟨ret_int HR.out.symm, hb1⟩
      | true =>
        rw [h2] at HR
        go_enter Try.func46, Try.ntmps46
        go_wp2_with fail
        refine OK.out.mono ?_
        rintro e w1 ⟨rfl, hb1⟩
        have p0 := P0.out _ hb1
        go_wp2_with (first | (go_at_call 48; refine (l00In_any _ _ _ _).mono ?_; rintro e w' ⟨rfl, rfl⟩) | (go_at_call 57; refine (l09Tick_any _ _).mono ?_; rintro e w' ⟨rfl, rfl⟩))
        go_ret
        exact ⟨ret_int HR.out.symm, hb1⟩
theorem checkZoned_any (t : TZoned) (a b : Option Addr) (n c m d : Nat) (w : World) (hz : ZArg w a n b m t) :
    Calls Try.prog 59 #[.agg #[.int .i64 t.1, .slice a n c, .slice b m d]] w fun e w' => e = .returned (.int .i64 (zc t)) ∧ Below w.heap.size w w' := by
  have OK : Hid (∀ W, Below w.heap.size w W → Calls Try.prog 90 #[.agg #[.int .i64 t.1, .slice a n c, .slice b m d]] W fun e w' => e = .returned (.bool (zonB t)) ∧ Below W.heap.size W w') := fun W h => by
    have hz' := hz.below h
    exact implValidZoned_any W t hz'.hn hz'.ha hz'.hs hz'.hm hz'.hb hz'.hs2 hz'.wf
  clear hz
  cases hv : zonB t with
  | false =>
    rw [hv] at OK
    have HR := Lib.hid (zc_no hv)
    clear hv
    go_enter Try.func59, Try.ntmps59
    go_wp2_with fail
    refine (OK.out _ (by repeat (first | exact Below.refl _ _ | refine Below.alloc ?_ (by simp; try omega) _ | refine Below.setCell ?_ (by simp; try omega) _))).mono ?_
    rintro e w1 ⟨rfl, hb1⟩
    go_wp2
    go_ret
    exact ⟨ret_int HR.out.symm, Below.trans (by repeat (first | exact Below.refl _ _ | refine Below.alloc ?_ (by simp; try omega) _ | refine Below.setCell ?_ (by simp; try omega) _)) (hb1.mono (by simp))⟩
  | true =>
    rw [hv] at OK
    have HR := Lib.hid (zc_yes hv)
    clear hv
    go_enter Try.func59, Try.ntmps59
    go_wp2_with fail
    refine (OK.out _ (by repeat (first | exact Below.refl _ _ | refine Below.alloc ?_ (by simp; try omega) _ | refine Below.setCell ?_ (by simp; try omega) _))).mono ?_
    rintro e w1 ⟨rfl, hb1⟩
    go_wp2
    go_ret
    exact ⟨ret_int HR.out.symm, Below.trans (by repeat (first | exact Below.refl _ _ | refine Below.alloc ?_ (by simp; try omega) _ | refine Below.setCell ?_ (by simp; try omega) _)) (hb1.mono (by simp))⟩
set_option maxHeartbeats 1000000 in
theorem checkZone_any (t : TZoned) (a b : Option Addr) (n c m d : Nat) (zone : Int) (w : World) (hz : ZArg w a n b m t) :
    Calls Try.prog 62 #[.agg #[.int .i64 t.1, .slice a n c, .slice b m d], .int .i64 zone] w fun e w' => e = .returned (.int .i64 (zoneC t zone)) ∧ Below w.heap.size w w' := by
  have OK : Hid (∀ W, Below w.heap.size w W → Calls Try.prog 59 #[.agg #[.int .i64 t.1, .slice a n c, .slice b m d]] W fun e w' => e = .returned (.int .i64 (zc t)) ∧ Below W.heap.size W w') := fun W h => checkZoned_any t a b n c m d W (hz.below h)
  have CR : Hid (∀ W, Calls Try.prog 40 #[.int .i64 (zc t), .int .i64 zone, .int .i64 (IntKind.i64.wrap (t.1 - 1))] W fun e w' => e = .returned (.int .i64 (zoneC t zone)) ∧ W = w') := fun W => by
    have e1 : rangeCode (zc t) zone (IntKind.i64.wrap (t.1 - 1)) = zoneC t zone := by
      cases hv : zonB t with
      | false => rw [zoneC_no hv, zc_no hv]; rfl
      | true =>
        have h18 := (zonB_of hv).1
        have h18' := (zonB_of hv).2.1
        rw [show IntKind.i64.wrap (t.1 - 1) = t.1 - 1 from IntWalk.i64_in _ (by omega)]
        rfl
    rw [← e1]
    exact checkRange_any _ _ _ _
  clear hz
  go_enter Try.func62, Try.ntmps62
  go_wp2_with fail
  have X0 : Hid (∀ w', Below (w.alloc (.cells #[.int .i64 t.1, .slice a n c, .slice b m d] 27)).heap.size (w.alloc (.cells #[.int .i64 t.1, .slice a n c, .slice b m d] 27)) w' → w'.cell? ⟨w.heap.size, 0, none⟩ = some (.int .i64 t.1) ∧ w'.cell? ⟨w.heap.size, 1, none⟩ = some (.slice a n c) ∧ w'.cell? ⟨w.heap.size, 2, none⟩ = some (.slice b m d)) := fun w' h => ⟨keepS h (by simp [go_sem]), keepS h (by simp [go_sem]), keepS h (by simp [go_sem])⟩
  go_region_held3 (fun w' => w'.cell? ⟨w.heap.size, 0, none⟩ = some (.int .i64 t.1) ∧ w'.cell? ⟨w.heap.size, 1, none⟩ = some (.slice a n c) ∧ w'.cell? ⟨w.heap.size, 2, none⟩ = some (.slice b m d))
    (first | exact X0.out _ (Below.refl _ _).drew | exact X0.out _ (((Below.refl _ _).drew).trans hb1))
    (first | (go_at_call 59; refine (OK.out _ (by (repeat (first | exact Below.refl _ _ | refine Below.drew ?_ | refine Below.drewN' ?_ _ | refine Below.alloc ?_ (by first | (simp; done) | (simp; omega)) _ | refine Below.setCell ?_ (by first | (simp; done) | (simp; omega)) _)); done)).mono ?_; rintro e w1 ⟨rfl, hb1⟩) | (go_at_call 40; refine (CR.out _).mono ?_; rintro e w' ⟨rfl, rfl⟩))
  go_wp2
  go_ret
  exact ⟨rfl, Below.trans (by (repeat (first | exact Below.refl _ _ | refine Below.drew ?_ | refine Below.drewN' ?_ _ | refine Below.alloc ?_ (by first | (simp; done) | (simp; omega)) _ | refine Below.setCell ?_ (by first | (simp; done) | (simp; omega)) _)); done) (hb1.mono (by simp))⟩
set_option maxHeartbeats 1000000 in
theorem l09Way_any (zb : Nat) (t : TZoned) (a b : Option Addr) (n c m d : Nat) (x : Option Addr) (way : List Int) (q cq : Nat) (w : World) (hz : ZArg w a n b m t) (hq : Hid (way.length = q)) (hx : RI w x way) (hqm : q ≤ 1048576)
    (p0 : w.cell? ⟨zb, 0, none⟩ = some (.int .i64 t.1)) (p1 : w.cell? ⟨zb, 1, none⟩ = some (.slice a n c)) (p2 : w.cell? ⟨zb, 2, none⟩ = some (.slice b m d)) :
    Calls Try.prog 56 #[.pointer (some ⟨zb, 0, none⟩), .slice x q cq] w fun e w' => e = .returned (.int .i64 (wayC t way)) ∧ Below w.heap.size w w' := by
  have OK := Lib.hid (l09Ok_any zb t a b n c m d w hz.hn hz.ha hz.hs hz.hm hz.hb hz.hs2 p0 p1 p2)
  have P1 : Hid (∀ w', Below w.heap.size w w' → w'.cell? ⟨zb, 1, none⟩ = some (.slice a n c)) := fun w' h => keepS h p1
  have HX : Hid (∀ w', Below w.heap.size w w' → RI w' x way) := fun w' h => hx.below h
  have HN := hz.hn
  have hs := hz.hs
  clear hz p0 p1 p2 hx
  cases hv : zonB t with
  | false =>
    rw [hv] at OK
    have HR : Hid (wayC t way = 1) := by unfold Hid wayC; rw [zc_no hv]; rfl
    clear hv
    go_enter Try.func56, Try.ntmps56
    go_wp2_with fail
    refine OK.out.mono ?_
    rintro e w1 ⟨rfl, hb1⟩
    go_wp2
    go_ret
    exact ⟨ret_int HR.out.symm, hb1⟩
  | true =>
    rw [hv] at OK
    have HR : Hid (wayC t way = if way.length ≤ 24 ∧ (way.all fun k => inB k 0 ((n : Int) - 1)) = true then 0 else 2) := by unfold Hid wayC; rw [zc_yes hv, HN.out]; rfl
    clear hv
    go_enter Try.func56, Try.ntmps56
    go_wp2_with fail
    refine OK.out.mono ?_
    rintro e w1 ⟨rfl, hb1⟩
    have HB1 := Lib.hid hb1
    clear hb1
    go_wp2
    go_loopw [5] (fun i wr => ∃ k : Nat, k ≤ q ∧ i = .int .i64 k ∧ Hid (Below w.heap.size w wr) ∧ Hid (∀ j (h : j < way.length), j < k → inB way[j] 0 ((n : Int) - 1) = true)) (fun i _ => q - (intOf i).toNat)
    case atStart => exact ⟨0, by omega, rfl, HB1, fun j _ hj => by omega⟩
    case round =>
      obtain ⟨k, hk, rfl, HBEL, HALL⟩ := hrel
      have p1 := P1.out _ HBEL.out
      by_cases hlt : k < q
      · have hka : k < way.length := by rw [hq.out]; exact hlt
        have HBAD : Hid (inB way[k] 0 ((n : Int) - 1) = false → wayC t way = 2) := fun h => by
          rw [HR.out, if_neg]
          intro hh
          have := hh.2
          rw [List.all_eq_true] at this
          have := this _ (List.getElem_mem hka)
          rw [h] at this
          exact absurd this (by decide)
        have HOK : Hid (inB way[k] 0 ((n : Int) - 1) = true → ∀ j (h : j < way.length), j < k + 1 → inB way[j] 0 ((n : Int) - 1) = true) := fun ht j h hj => if e : j = k then (by subst e; exact ht) else HALL.out j h (by omega)
        obtain ⟨ba, oa, rfl, hbl, x0⟩ := (HX.out _ HBEL.out).at_ k hka
        generalize way[k] = u at x0 HBAD HOK
        have hk0 : (0 : Int) ≤ (k : Int) := by omega
        have hk1 : (k : Int) < (q : Int) := by omega
        have CI : Hid (∀ W, Calls Try.prog 48 #[.int .i64 u, .int .i64 0, .int .i64 (IntKind.i64.wrap ((n : Int) - 1))] W fun e w' => e = .returned (.bool (inB u 0 ((n : Int) - 1))) ∧ W = w') := fun W => by
          rw [show IntKind.i64.wrap ((n : Int) - 1) = (n : Int) - 1 from IntWalk.i64_in _ (by omega)]
          exact l00In_any _ _ _ _
        cases ht : inB u 0 ((n : Int) - 1) with
        | true =>
          have HOK2 := Lib.hid (HOK.out ht)
          clear HOK HBAD
          go_wp2_with fail
          go_region_held3 (fun w' => w'.cell? ⟨zb, 1, none⟩ = some (.slice a n c) ∧ w'.cell? ⟨ba, oa + k, none⟩ = some (.int .i64 u)) (first | exact ⟨p1, x0⟩)
            (first | (go_at_call 48; refine (CI.out _).mono ?_; rintro e w' ⟨rfl, rfl⟩; rw [ht]))
          go_wp2
          go_roundw
          case rel => exact ⟨k + 1, by omega, by go_num, HBEL.out.drew, HOK2⟩
          case measure => simp [intOf]; omega
        | false =>
          have HR := Lib.hid (HBAD.out ht)
          clear HOK HBAD
          go_wp2_with fail
          go_region_held3 (fun w' => w'.cell? ⟨zb, 1, none⟩ = some (.slice a n c) ∧ w'.cell? ⟨ba, oa + k, none⟩ = some (.int .i64 u)) (first | exact ⟨p1, x0⟩)
            (first | (go_at_call 48; refine (CI.out _).mono ?_; rintro e w' ⟨rfl, rfl⟩; rw [ht]))
          go_wp2
          go_ret
          exact ⟨ret_int HR.out.symm, HBEL.out.drew⟩
      · have hall : (way.all fun k => inB k 0 ((n : Int) - 1)) = true := by
          rw [List.all_eq_true]
          intro y hy
          obtain ⟨j, hj, rfl⟩ := List.getElem_of_mem hy
          exact HALL.out j hj (by rw [hq.out] at hj; omega)
        by_cases h24 : 24 < q
        · have HR2 : Hid (wayC t way = 2) := by unfold Hid; rw [HR.out, if_neg (by rw [hq.out]; omega)]
          clear hall
          go_wp2
          go_ret
          exact ⟨ret_int HR2.out.symm, HBEL.out⟩
        · have HR2 : Hid (wayC t way = 0) := by unfold Hid; rw [HR.out, if_pos ⟨by rw [hq.out]; omega, hall⟩]
          clear hall
          go_wp2
          go_ret
          exact ⟨ret_int HR2.out.symm, HBEL.out⟩
set_option maxHeartbeats 1000000 in
theorem checkZonedWay_any (t : TZoned) (a b : Option Addr) (n c m d : Nat) (x : Option Addr) (way : List Int) (q cq : Nat) (w : World) (hz : ZArg w a n b m t) (hq : Hid (way.length = q)) (hx : RI w x way) (hqm : q ≤ 1048576) :
    Calls Try.prog 51 #[.agg #[.int .i64 t.1, .slice a n c, .slice b m d], .slice x q cq] w fun e w' => e = .returned (.int .i64 (wayC t way)) ∧ Below w.heap.size w w' := by
  have OK : Hid (∀ W, Below w.heap.size w W → Calls Try.prog 59 #[.agg #[.int .i64 t.1, .slice a n c, .slice b m d]] W fun e w' => e = .returned (.int .i64 (zc t)) ∧ Below W.heap.size W w') := fun W h => checkZoned_any t a b n c m d W (hz.below h)
  have AW : Hid (∀ W, Below w.heap.size w W → Calls Try.prog 86 #[.slice x q cq, .int .i64 ((n : Int) - 1)] W fun e w' => e = .returned (.bool (way.all fun k => inB k 0 ((n : Int) - 1))) ∧ W = w') := fun W h => areWithin_any x way q cq ((n : Int) - 1) W hq (hx.below h) hqm
  have hs := hz.hs
  have HN := hz.hn
  have X1 : Hid (∀ w', Below (w.alloc (.cells #[.int .i64 t.1, .slice a n c, .slice b m d] 27)).heap.size (w.alloc (.cells #[.int .i64 t.1, .slice a n c, .slice b m d] 27)) w' → w'.cell? ⟨w.heap.size, 1, none⟩ = some (.slice a n c)) := fun w' h => keepS h (by simp [go_sem])
  clear hz hx
  cases hv : zonB t with
  | false =>
    have hz1 := zc_no hv
    rw [hz1] at OK
    have HR : Hid (wayC t way = 1) := by unfold Hid wayC; rw [hz1]; rfl
    clear hv hz1
    go_enter Try.func51, Try.ntmps51
    go_wp2_with fail
    refine (OK.out _ (by repeat (first | exact Below.refl _ _ | refine Below.alloc ?_ (by simp; try omega) _ | refine Below.setCell ?_ (by simp; try omega) _))).mono ?_
    rintro e w1 ⟨rfl, hb1⟩
    go_wp2
    go_ret
    exact ⟨ret_int HR.out.symm, Below.trans (by repeat (first | exact Below.refl _ _ | refine Below.alloc ?_ (by simp; try omega) _ | refine Below.setCell ?_ (by simp; try omega) _)) (hb1.mono (by simp))⟩
  | true =>
    have hz1 := zc_yes hv
    rw [hz1] at OK
    have HR : Hid (wayC t way = if way.length ≤ 24 ∧ (way.all fun k => inB k 0 ((n : Int) - 1)) = true then 0 else 2) := by unfold Hid wayC; rw [hz1, HN.out]; rfl
    clear hv hz1
    by_cases h24 : 24 < q
    · have HR2 : Hid (wayC t way = 2) := by unfold Hid; rw [HR.out, if_neg (by rw [hq.out]; omega)]
      go_enter Try.func51, Try.ntmps51
      go_wp2_with fail
      refine (OK.out _ (by repeat (first | exact Below.refl _ _ | refine Below.alloc ?_ (by simp; try omega) _ | refine Below.setCell ?_ (by simp; try omega) _))).mono ?_
      rintro e w1 ⟨rfl, hb1⟩
      go_wp2
      go_ret
      exact ⟨ret_int HR2.out.symm, Below.trans (by repeat (first | exact Below.refl _ _ | refine Below.alloc ?_ (by simp; try omega) _ | refine Below.setCell ?_ (by simp; try omega) _)) (hb1.mono (by simp))⟩
    · cases ha : (way.all fun k => inB k 0 ((n : Int) - 1)) with
      | false =>
        rw [ha] at AW
        have HR2 : Hid (wayC t way = 2) := by unfold Hid; rw [HR.out, ha, if_neg (by simp)]
        clear ha
        go_enter Try.func51, Try.ntmps51
        go_wp2_with fail
        refine (OK.out _ (by repeat (first | exact Below.refl _ _ | refine Below.alloc ?_ (by simp; try omega) _ | refine Below.setCell ?_ (by simp; try omega) _))).mono ?_
        rintro e w1 ⟨rfl, hb1⟩
        have p1 := X1.out _ hb1
        have HB1 : Hid (Below w.heap.size w w1) := Below.trans (by repeat (first | exact Below.refl _ _ | refine Below.alloc ?_ (by simp; try omega) _ | refine Below.setCell ?_ (by simp; try omega) _)) (hb1.mono (by simp))
        clear hb1
        go_wp2_with fail
        refine (AW.out _ HB1.out).mono ?_
        rintro e w' ⟨rfl, rfl⟩
        go_wp2
        go_ret
        exact ⟨ret_int HR2.out.symm, HB1.out⟩
      | true =>
        rw [ha] at AW
        have HR2 : Hid (wayC t way = 0) := by unfold Hid; rw [HR.out, ha, if_pos ⟨by rw [hq.out]; omega, rfl⟩]
        clear ha
        go_enter Try.func51, Try.ntmps51
        go_wp2_with fail
        refine (OK.out _ (by repeat (first | exact Below.refl _ _ | refine Below.alloc ?_ (by simp; try omega) _ | refine Below.setCell ?_ (by simp; try omega) _))).mono ?_
        rintro e w1 ⟨rfl, hb1⟩
        have p1 := X1.out _ hb1
        have HB1 : Hid (Below w.heap.size w w1) := Below.trans (by repeat (first | exact Below.refl _ _ | refine Below.alloc ?_ (by simp; try omega) _ | refine Below.setCell ?_ (by simp; try omega) _)) (hb1.mono (by simp))
        clear hb1
        go_wp2_with fail
        refine (AW.out _ HB1.out).mono ?_
        rintro e w' ⟨rfl, rfl⟩
        go_wp2
        go_ret
        exact ⟨ret_int HR2.out.symm, HB1.out⟩
end Go.Proofs.Ytghpefdleiebmaa
