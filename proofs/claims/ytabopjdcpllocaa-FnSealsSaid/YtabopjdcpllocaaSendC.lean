/-
  SendCarriers: the model's walk and the program's.
-/
import Derived.Test.YtabopjdcpllocaaMove2
import Derived.Deep.RegionHeld3
namespace Go.Proofs.Ytabopjdcpllocaa
open Go.RowKit

theorem kept_cell {w1 w2 : World} {p : Addr} {v : Value} (hb : Below w1.heap.size w1 w2) (h : w1.cell? p = some v) : w2.cell? p = some v := (hb.cell (World.block_lt_of_cell? w1 p h)).trans h
def msB (m : Int) (ts : List TMove) : Bool := decide (ts.length ≤ 40) && ts.all (mvB m)
def mcode (c m : Int) (ts : List TMove) : Int := if c = 0 then (if msB m ts = true then 0 else 2) else c
theorem msB_one (m : Int) (t : TMove) : msB m [t] = mvB m t := by simp [msB]
theorem msB_at {m : Int} {ts : List TMove} (h : msB m ts = true) (k : Nat) (hk : k < ts.length) : mvB m ts[k] = true := by
  unfold msB at h
  rw [Bool.and_eq_true] at h
  exact all_at h.2 k hk
theorem msB_few {m : Int} {ts : List TMove} (h : msB m ts = true) : ts.length ≤ 40 := by
  unfold msB at h
  rw [Bool.and_eq_true] at h
  exact of_decide_eq_true h.1
theorem stB_tame {l : List Int} (h : stB l = true) : tameL l := fun i hi => by have := stB_at h i hi; omega

set_option maxHeartbeats 2000000 in
theorem checkMoves_any (c : Int) (m : Nat) (a : Option Addr) (ts : List TMove) (n ca : Nat) (w : World) (hn : Hid (ts.length = n)) (ha : RR 3 cMove w a ts) (hmax : n ≤ 1048576) (hm : m ≤ 1048576) :
    Calls Try.prog 52 #[.int .i64 c, .int .i64 m, .slice a n ca] w fun e w' => e = .returned (.int .i64 (mcode c m ts)) ∧ Below w.heap.size w w' := by
  have HA := Lib.hid ha
  clear ha
  rcases eq_ways c 0 with ⟨⟨e1, e2⟩, e3⟩ | ⟨⟨e1, e2⟩, e3⟩
  · subst e3
    clear e1 e2
    by_cases h40 : 40 < n
    · have HR : Hid (mcode 0 m ts = 2) := by unfold Hid mcode msB; rw [hn.out, show decide (n ≤ 40) = false from decide_eq_false (by omega)]; rfl
      go_enter Try.func52, Try.ntmps52
      go_wp2
      go_ret
      exact ⟨ret_int HR.out.symm, Below.refl _ _⟩
    go_enter Try.func52, Try.ntmps52
    go_wp2
    go_loopw [17] (fun i wr => ∃ k : Nat, k ≤ n ∧ i = .int .i64 k ∧ Hid (Below w.heap.size w wr) ∧ Hid (∀ j (h : j < ts.length), j < k → mvB m ts[j] = true)) (fun i _ => n - (intOf i).toNat)
    case atStart => exact ⟨0, by omega, rfl, Below.refl _ _, fun j _ hj => by omega⟩
    case round =>
      obtain ⟨k, hk, rfl, HBEL, HALL⟩ := hrel
      by_cases hlt : k < n
      · have hka : k < ts.length := by rw [hn.out]; exact hlt
        have HBAD : Hid (mvB m ts[k] = false → mcode 0 m ts = 2) := fun h => by unfold mcode msB; rw [all_no (f := mvB m) k hka h]; simp
        have HOK : Hid (mvB m ts[k] = true → ∀ j (h : j < ts.length), j < k + 1 → mvB m ts[j] = true) := fun ht j h hj => if e : j = k then (by subst e; exact ht) else HALL.out j h (by omega)
        obtain ⟨b, off, rfl, hbl, hc⟩ := HA.out.at_ k hka
        have x0 := (HBEL.out.cell (p := ⟨b, off + k * 3 + 0, none⟩) hbl).trans (hc 0 _ rfl)
        have x1 := (HBEL.out.cell (p := ⟨b, off + k * 3 + 1, none⟩) hbl).trans (hc 1 _ rfl)
        have x2 := (HBEL.out.cell (p := ⟨b, off + k * 3 + 2, none⟩) hbl).trans (hc 2 _ rfl)
        simp only [Nat.add_zero] at x0
        clear hc
        generalize ts[k] = t at x0 x1 x2 HBAD HOK
        obtain ⟨t1, t2, t3⟩ := t
        dsimp only at x0 x1 x2 HBAD HOK
        have hk0 : (0 : Int) ≤ (k : Int) := by omega
        have hk1 : (k : Int) < (n : Int) := by omega
        have hws := HBEL.out.size
        have IB := fun W => isBetween_any m (t1, t2, t3) W hm
        dsimp only at IB
        have hb0 : Below wr.heap.size wr (wr.alloc (.cells #[.int .i64 t1, .int .i64 t2, .int .i64 t3] 44)) := (by repeat (first | exact Below.refl _ _ | refine Below.alloc ?_ (by simp; try omega) _ | refine Below.setCell ?_ (by simp; try omega) _))
        cases h1 : mvB m (t1, t2, t3) with
        | false =>
          have HR := Lib.hid (HBAD.out h1)
          rw [h1] at IB
          clear HOK HBAD h1
          go_wp2_with (go_at_call 71; refine (IB _).mono ?_; rintro e w2 ⟨rfl, hb2⟩)
          go_ret
          exact ⟨ret_int HR.out.symm, two_worlds HBEL.out (two_worlds hb0 hb2)⟩
        | true =>
          have HOK2 := Lib.hid (HOK.out h1)
          rw [h1] at IB
          clear HOK HBAD h1
          go_wp2_with (go_at_call 71; refine (IB _).mono ?_; rintro e w2 ⟨rfl, hb2⟩)
          go_roundw
          case rel => exact ⟨k + 1, by omega, by go_num, two_worlds HBEL.out (two_worlds hb0 hb2), HOK2⟩
          case measure => simp [intOf]; omega
      · have HR : Hid (mcode 0 m ts = 0) := by
          unfold Hid mcode msB
          rw [hn.out, all_yes (fun j hj => HALL.out j hj (by rw [hn.out] at hj; omega)), show decide (n ≤ 40) = true from decide_eq_true (by omega)]
          rfl
        go_wp2
        go_ret
        exact ⟨ret_int HR.out.symm, HBEL.out⟩
  · have HR : Hid (mcode c m ts = c) := by unfold Hid mcode; rw [if_neg e3]
    clear e3
    go_enter Try.func52, Try.ntmps52
    go_wp2
    go_ret
    exact ⟨ret_int HR.out.symm, Below.refl _ _⟩

def sendOf (l : List Int) (t : TMove) : List Int × Int :=
  if stB l = true then if mvB (l.length : Int) t = true then (if t.2.2 ≤ l.getD t.1.toNat 0 then (movL l t.1.toNat t.2.1.toNat t.2.2, 0) else ([], 6)) else ([], 2) else ([], 1)
theorem sendOf_bad {l : List Int} (t : TMove) (h : stB l = false) : sendOf l t = ([], 1) := by unfold sendOf; rw [h]; rfl
theorem sendOf_range {l : List Int} {t : TMove} {n : Nat} (h : stB l = true) (hn : l.length = n) (h2 : mvB (n : Int) t = false) : sendOf l t = ([], 2) := by unfold sendOf; rw [if_pos h, hn, h2]; rfl
theorem sendOf_few {l : List Int} {f t : Nat} {x : Int} {n : Nat} (h : stB l = true) (hn : l.length = n) (h2 : mvB (n : Int) ((f : Int), (t : Int), x) = true) (h3 : ¬ x ≤ l.getD f 0) : sendOf l ((f : Int), (t : Int), x) = ([], 6) := by
  unfold sendOf
  rw [if_pos h, hn, if_pos h2]
  dsimp only
  rw [Int.toNat_natCast, if_neg h3]
theorem sendOf_good {l : List Int} {f t : Nat} {x : Int} {n : Nat} (h : stB l = true) (hn : l.length = n) (h2 : mvB (n : Int) ((f : Int), (t : Int), x) = true) (h3 : x ≤ l.getD f 0) : sendOf l ((f : Int), (t : Int), x) = (movL l f t x, 0) := by
  unfold sendOf
  rw [if_pos h, hn, if_pos h2]
  dsimp only
  rw [Int.toNat_natCast, Int.toNat_natCast, if_pos h3]
theorem sendOf_len (l : List Int) (t : TMove) (hl : l.length ≤ 1048576) : (sendOf l t).1.length ≤ 1048576 := by
  unfold sendOf
  split
  · split
    · split
      · rw [movL_len]; exact hl
      · simp
    · simp
  · simp

set_option maxHeartbeats 4000000 in
theorem specSendCarriers_any (w : World) {a0 : Option Addr} {n0 c0 : Nat} (l0 : List Int) (hn0 : Hid (l0.length = n0)) (h0 : RI w a0 l0) (hs0 : n0 ≤ 1048576) (_wf0 : Hid (∀ k ∈ l0, (Lit.int .i64 k).wf = true)) (t1 : TMove) (_wf1 : Hid (wfMove t1)) :
    Calls Try.prog 31 #[.slice a0 n0 c0, .agg #[.int .i64 t1.1, .int .i64 t1.2.1, .int .i64 t1.2.2]] w (GivesIs 2 (sendOf l0 t1) w) := by
  obtain ⟨f, t, x⟩ := t1
  dsimp only
  have HA : Hid (∀ w', Below w.heap.size w w' → RI w' a0 l0) := fun w' h => h0.below h
  have HB0 : Hid (Below w.heap.size w (w.alloc (.cells #[.int .i64 f, .int .i64 t, .int .i64 x] 44))) := (by repeat (first | exact Below.refl _ _ | refine Below.alloc ?_ (by simp; try omega) _ | refine Below.setCell ?_ (by simp; try omega) _))
  have OK := l07Ok_any a0 l0 n0 c0 (w.alloc (.cells #[.int .i64 f, .int .i64 t, .int .i64 x] 44)) hn0 (HA.out _ HB0.out) hs0
  have MV := l07Move_any w.heap.size 0 n0 (f, t, x) (w.alloc (.cells #[.int .i64 f, .int .i64 t, .int .i64 x] 44)) hs0 (by simp [go_sem]) (by simp [go_sem]) (by simp [go_sem])
  have q0 : (w.alloc (.cells #[.int .i64 f, .int .i64 t, .int .i64 x] 44)).cell? ⟨w.heap.size, 0, none⟩ = some (.int .i64 f) := by simp [go_sem]
  have q1 : (w.alloc (.cells #[.int .i64 f, .int .i64 t, .int .i64 x] 44)).cell? ⟨w.heap.size, 0 + 1, none⟩ = some (.int .i64 t) := by simp [go_sem]
  have q2 : (w.alloc (.cells #[.int .i64 f, .int .i64 t, .int .i64 x] 44)).cell? ⟨w.heap.size, 0 + 2, none⟩ = some (.int .i64 x) := by simp [go_sem]
  have HQ := Lib.hid (And.intro q0 (And.intro q1 q2))
  clear h0 q0 q1 q2
  cases hv : stB l0 with
  | false =>
    rw [hv] at OK
    have HR := Lib.hid (sendOf_bad (f, t, x) hv)
    clear hv MV
    go_enter Try.func31, Try.ntmps31
    go_wp2_with (go_at_call 57; refine OK.mono ?_; rintro e w' ⟨rfl, rfl⟩)
    go_ret2
    exact givesIs_nil HR.out HB0.out
  | true =>
    rw [hv] at OK
    have HV := Lib.hid hv
    clear hv
    cases hm : mvB (n0 : Int) (f, t, x) with
    | false =>
      rw [hm] at MV
      have HR := Lib.hid (sendOf_range HV.out hn0.out hm)
      clear hm
      go_enter Try.func31, Try.ntmps31
      go_wp2_with (first | (go_at_call 57; refine OK.mono ?_; rintro e w' ⟨rfl, rfl⟩) | (go_at_call 58; refine MV.mono ?_; rintro e w1 ⟨rfl, hb1⟩))
      go_ret2
      exact givesIs_nil HR.out (two_worlds HB0.out hb1)
    | true =>
      rw [hm] at MV
      have hmv := mvB_of hm
      dsimp only at hmv
      obtain ⟨fn, rfl⟩ : ∃ fn : Nat, f = fn := ⟨f.toNat, by omega⟩
      obtain ⟨tn, rfl⟩ : ∃ tn : Nat, t = tn := ⟨t.toNat, by omega⟩
      have hfn : fn < n0 := by omega
      have htn : tn < n0 := by omega
      have hne : fn ≠ tn := by omega
      have hn10 : n0 ≤ 10 := by have := stB_len HV.out; rw [hn0.out] at this; omega
      have HGO : Hid (x ≤ l0.getD fn 0 → sendOf l0 ((fn : Int), (tn : Int), x) = (movL l0 fn tn x, 0)) := fun h => sendOf_good HV.out hn0.out hm h
      have HNO : Hid (¬ x ≤ l0.getD fn 0 → sendOf l0 ((fn : Int), (tn : Int), x) = ([], 6)) := fun h => sendOf_few HV.out hn0.out hm h
      have hx : 1 ≤ x ∧ x ≤ 200 := by omega
      have OWN : Hid (∀ W, Below w.heap.size w W → Calls Try.prog 59 #[.slice a0 n0 c0] W (GivesO 2 l0 n0 W)) := fun W h => own_any a0 c0 n0 l0 W hn0 (by omega) hs0 (HA.out W h)
      have HML : Hid ((movL l0 fn tn x).length = n0) := by unfold Hid; rw [movL_len]; exact hn0.out
      clear hm hmv
      by_cases h3 : x ≤ l0.getD fn 0
      all_goals
        go_enter Try.func31, Try.ntmps31
        go_wp2_with (first | (go_at_call 57; refine OK.mono ?_; rintro e w' ⟨rfl, rfl⟩) | (go_at_call 58; refine MV.mono ?_; rintro e w1 ⟨rfl, hb1⟩))
        have HB1 := Lib.hid (two_worlds HB0.out hb1)
        refine (OWN.out _ HB1.out).mono ?_
        rintro e w2 ⟨g, cap, rfl, hb2, ho2⟩
        have HG2 : Hid (w1.heap.size ≤ g) := own_ge ho2
        have hgs := hb1.size
        simp at hgs
        have SD := l07Send_any w.heap.size 0 w1.heap.size g n0 cap l0 fn tn x w2 hn0 hfn htn hne hx (stB_tame HV.out) ho2 (by have := HG2.out; omega) (kept_cell hb2 (kept_cell hb1 HQ.out.1)) (kept_cell hb2 (kept_cell hb1 HQ.out.2.1)) (kept_cell hb2 (kept_cell hb1 HQ.out.2.2))
        have HB2 := Lib.hid (two_worlds HB1.out hb2)
        clear hb1 hb2 ho2
      · have HR := Lib.hid (HGO.out h3)
        have HSL : Hid (sendL l0 fn tn x = movL l0 fn tn x) := if_pos h3
        rw [decide_eq_true h3] at SD
        clear h3 HGO HNO
        go_wp2_with (go_at_call 60; refine SD.mono ?_; rintro e w3 ⟨rfl, hg3, ho3⟩)
        have HB3 : Hid (Below w.heap.size w w3) := HB2.out.grown hg3 HB2.out.size (fun k hk => by injection hk with hk; subst hk; have := HG2.out; have := HB1.out.size; omega)
        rw [HSL.out] at ho3
        have HO3 := Lib.hid (own_lo ho3 HB1.out.size)
        clear hg3 ho3
        go_wp2
        go_ret2
        exact givesIs_of HR.out HB3.out HML.out HO3.out
      · have HR := Lib.hid (HNO.out (by omega))
        rw [decide_eq_false (by omega)] at SD
        clear h3 HGO HNO
        go_wp2_with (go_at_call 60; refine SD.mono ?_; rintro e w3 ⟨rfl, hg3, ho3⟩)
        have HB3 : Hid (Below w.heap.size w w3) := HB2.out.grown hg3 HB2.out.size (fun k hk => by injection hk with hk; subst hk; have := HG2.out; have := HB1.out.size; omega)
        clear hg3 ho3
        go_wp2
        go_ret2
        exact givesIs_nil HR.out HB3.out

set_option maxHeartbeats 8000000 in
theorem implSendCarriers_any (w : World) {a0 : Option Addr} {n0 c0 : Nat} (l0 : List Int) (hn0 : Hid (l0.length = n0)) (h0 : RI w a0 l0) (hs0 : n0 ≤ 1048576) (_wf0 : Hid (∀ k ∈ l0, (Lit.int .i64 k).wf = true)) (t1 : TMove) (_wf1 : Hid (wfMove t1)) :
    Calls Try.prog 30 #[.slice a0 n0 c0, .agg #[.int .i64 t1.1, .int .i64 t1.2.1, .int .i64 t1.2.2]] w (GivesIs 2 (sendOf l0 t1) w) := by
  obtain ⟨f, t, x⟩ := t1
  dsimp only
  have HA : Hid (∀ w', Below w.heap.size w w' → RI w' a0 l0) := fun w' h => h0.below h
  have HB0 : Hid (Below w.heap.size w (w.alloc (.cells #[.int .i64 f, .int .i64 t, .int .i64 x] 44))) := (by repeat (first | exact Below.refl _ _ | refine Below.alloc ?_ (by simp; try omega) _ | refine Below.setCell ?_ (by simp; try omega) _))
  have CS : Hid (∀ W, Below w.heap.size w W → Calls Try.prog 53 #[.slice a0 n0 c0] W fun e w' => e = .returned (.int .i64 (stcode l0)) ∧ W = w') := fun W h => checkStock_any a0 l0 n0 c0 W hn0 (HA.out W h) hs0
  have CM : Hid (∀ (W : World) (B : Nat), B = W.heap.size → Calls Try.prog 52 #[.int .i64 (stcode l0), .int .i64 n0, .slice (some ⟨B, 0, none⟩) 1 1] (W.alloc (.cells #[.int .i64 f, .int .i64 t, .int .i64 x] 44)) fun e w' => e = .returned (.int .i64 (mcode (stcode l0) n0 [(f, t, x)])) ∧ Below (W.alloc (.cells #[.int .i64 f, .int .i64 t, .int .i64 x] 44)).heap.size (W.alloc (.cells #[.int .i64 f, .int .i64 t, .int .i64 x] 44)) w') := fun W B hB => by
    subst hB
    exact checkMoves_any (stcode l0) n0 _ [(f, t, x)] 1 1 _ rfl (Box.RR (c := cMove) (Box.alloc W _ _)) (by omega) hs0
  have q0 : (w.alloc (.cells #[.int .i64 f, .int .i64 t, .int .i64 x] 44)).cell? ⟨w.heap.size, 0, none⟩ = some (.int .i64 f) := by simp [go_sem]
  have q1 : (w.alloc (.cells #[.int .i64 f, .int .i64 t, .int .i64 x] 44)).cell? ⟨w.heap.size, 1, none⟩ = some (.int .i64 t) := by simp [go_sem]
  have q2 : (w.alloc (.cells #[.int .i64 f, .int .i64 t, .int .i64 x] 44)).cell? ⟨w.heap.size, 2, none⟩ = some (.int .i64 x) := by simp [go_sem]
  have HCODE : Hid (mcode (stcode l0) n0 [(f, t, x)] = if stB l0 = true then (if mvB (n0 : Int) (f, t, x) = true then 0 else 2) else 1) := by
    unfold Hid mcode stcode
    rw [msB_one]
    by_cases h : stB l0 = true
    · rw [if_pos h, if_pos h, if_pos rfl]
    · rw [if_neg h, if_neg h, if_neg (by decide)]
  clear h0
  generalize mcode (stcode l0) n0 [(f, t, x)] = mc at CM HCODE
  generalize stcode l0 = sc at CS CM
  have HBW : Hid (∀ w1, Below ((w.alloc (.cells #[.int .i64 f, .int .i64 t, .int .i64 x] 44)).drew.alloc (.cells #[.int .i64 f, .int .i64 t, .int .i64 x] 44)).heap.size ((w.alloc (.cells #[.int .i64 f, .int .i64 t, .int .i64 x] 44)).drew.alloc (.cells #[.int .i64 f, .int .i64 t, .int .i64 x] 44)) w1 → Below w.heap.size w w1 ∧ w1.cell? ⟨w.heap.size, 0, none⟩ = some (.int .i64 f) ∧ w1.cell? ⟨w.heap.size, 1, none⟩ = some (.int .i64 t) ∧ w1.cell? ⟨w.heap.size, 2, none⟩ = some (.int .i64 x)) := fun w1 h => by
    have hk : Below (w.alloc (.cells #[.int .i64 f, .int .i64 t, .int .i64 x] 44)).heap.size (w.alloc (.cells #[.int .i64 f, .int .i64 t, .int .i64 x] 44)) w1 := two_worlds (show Below (w.alloc (.cells #[.int .i64 f, .int .i64 t, .int .i64 x] 44)).heap.size (w.alloc (.cells #[.int .i64 f, .int .i64 t, .int .i64 x] 44)) ((w.alloc (.cells #[.int .i64 f, .int .i64 t, .int .i64 x] 44)).drew.alloc (.cells #[.int .i64 f, .int .i64 t, .int .i64 x] 44)) from Below.alloc (Below.drew (Below.refl _ _)) (by simp) _) h
    exact ⟨two_worlds HB0.out hk, kept_cell hk (by simp [go_sem]), kept_cell hk (by simp [go_sem]), kept_cell hk (by simp [go_sem])⟩
  cases hv : stB l0 with
  | false =>
    rw [hv, if_neg (by decide)] at HCODE
    have HR := Lib.hid (sendOf_bad (f, t, x) hv)
    have hmc := HCODE.out
    subst hmc
    clear hv
    go_enter Try.func30, Try.ntmps30
    go_wp2_with fail
    go_region_held3 (fun w' => w'.cell? ⟨w.heap.size, 0, none⟩ = some (.int .i64 f) ∧ w'.cell? ⟨w.heap.size, 1, none⟩ = some (.int .i64 t) ∧ w'.cell? ⟨w.heap.size, 2, none⟩ = some (.int .i64 x)) (first | exact ⟨q0, q1, q2⟩ | exact ⟨by simp [go_sem], by simp [go_sem], by simp [go_sem]⟩ | exact (HBW.out _ hbm).2) (first | (go_at_call 53; refine (CS.out _ (by (repeat (first | exact Below.refl _ _ | refine Below.drew ?_ | refine Below.drewN' ?_ _ | refine Below.alloc ?_ (by first | (simp; done) | (simp; omega)) _ | refine Below.setCell ?_ (by first | (simp; done) | (simp; omega)) _)); done)).mono ?_; rintro e w' ⟨rfl, rfl⟩) | (go_at_call 52; refine (CM.out (w.alloc (.cells #[.int .i64 f, .int .i64 t, .int .i64 x] 44)).drew _ (by simp)).mono ?_; rintro e w1 ⟨rfl, hbm⟩))
    all_goals
      obtain ⟨hb1, _, _, _⟩ := HBW.out _ hbm
      go_wp2
      go_ret2
      exact givesIs_nil HR.out hb1
  | true =>
    rw [hv, if_pos rfl] at HCODE
    have HV := Lib.hid hv
    clear hv
    cases hm : mvB (n0 : Int) (f, t, x) with
    | false =>
      rw [hm, if_neg (by decide)] at HCODE
      have HR := Lib.hid (sendOf_range HV.out hn0.out hm)
      have hmc := HCODE.out
      subst hmc
      clear hm
      go_enter Try.func30, Try.ntmps30
      go_wp2_with fail
      go_region_held3 (fun w' => w'.cell? ⟨w.heap.size, 0, none⟩ = some (.int .i64 f) ∧ w'.cell? ⟨w.heap.size, 1, none⟩ = some (.int .i64 t) ∧ w'.cell? ⟨w.heap.size, 2, none⟩ = some (.int .i64 x)) (first | exact ⟨q0, q1, q2⟩ | exact ⟨by simp [go_sem], by simp [go_sem], by simp [go_sem]⟩ | exact (HBW.out _ hbm).2) (first | (go_at_call 53; refine (CS.out _ (by (repeat (first | exact Below.refl _ _ | refine Below.drew ?_ | refine Below.drewN' ?_ _ | refine Below.alloc ?_ (by first | (simp; done) | (simp; omega)) _ | refine Below.setCell ?_ (by first | (simp; done) | (simp; omega)) _)); done)).mono ?_; rintro e w' ⟨rfl, rfl⟩) | (go_at_call 52; refine (CM.out (w.alloc (.cells #[.int .i64 f, .int .i64 t, .int .i64 x] 44)).drew _ (by simp)).mono ?_; rintro e w1 ⟨rfl, hbm⟩))
      all_goals
        obtain ⟨hb1, _, _, _⟩ := HBW.out _ hbm
        go_wp2
        go_ret2
        exact givesIs_nil HR.out hb1
    | true =>
      rw [hm, if_pos rfl] at HCODE
      have hmc := HCODE.out
      subst hmc
      have hmv := mvB_of hm
      dsimp only at hmv
      obtain ⟨fn, rfl⟩ : ∃ fn : Nat, f = fn := ⟨f.toNat, by omega⟩
      obtain ⟨tn, rfl⟩ : ∃ tn : Nat, t = tn := ⟨t.toNat, by omega⟩
      have hfn : fn < n0 := by omega
      have htn : tn < n0 := by omega
      have hne : fn ≠ tn := by omega
      have hn10 : n0 ≤ 10 := by have := stB_len HV.out; rw [hn0.out] at this; omega
      have HGO : Hid (x ≤ l0.getD fn 0 → sendOf l0 ((fn : Int), (tn : Int), x) = (movL l0 fn tn x, 0)) := fun h => sendOf_good HV.out hn0.out hm h
      have HNO : Hid (¬ x ≤ l0.getD fn 0 → sendOf l0 ((fn : Int), (tn : Int), x) = ([], 6)) := fun h => sendOf_few HV.out hn0.out hm h
      have hx : 1 ≤ x ∧ x ≤ 200 := by omega
      have CL : Hid (∀ W, Below w.heap.size w W → Calls Try.prog 55 #[.slice a0 n0 c0] W (GivesO 2 l0 n0 W)) := fun W h => clone_any a0 c0 n0 l0 W hn0 (by omega) hs0 (HA.out W h)
      have IP : Hid (∀ W, Below w.heap.size w W → Calls Try.prog 54 #[.agg #[.int .i64 fn, .int .i64 tn, .int .i64 x], .slice a0 n0 c0] W fun e w' => e = .returned (.bool (decide (x ≤ l0.getD fn 0))) ∧ Below W.heap.size W w') := fun W h => isPossible_any a0 l0 n0 c0 fn tn x W hn0 (HA.out W h) hfn
      have HML : Hid ((movL l0 fn tn x).length = n0) := by unfold Hid; rw [movL_len]; exact hn0.out
      clear hm hmv
      by_cases h3 : x ≤ l0.getD fn 0
      · have HR := Lib.hid (HGO.out h3)
        simp only [decide_eq_true h3] at IP
        clear h3 HGO HNO
        go_enter Try.func30, Try.ntmps30
        go_wp2_with fail
        go_region_held3 (fun w' => w'.cell? ⟨w.heap.size, 0, none⟩ = some (.int .i64 (fn : Int)) ∧ w'.cell? ⟨w.heap.size, 1, none⟩ = some (.int .i64 (tn : Int)) ∧ w'.cell? ⟨w.heap.size, 2, none⟩ = some (.int .i64 x)) (first | exact ⟨q0, q1, q2⟩ | exact ⟨by simp [go_sem], by simp [go_sem], by simp [go_sem]⟩ | exact (HBW.out _ hbm).2) (first | (go_at_call 53; refine (CS.out _ (by (repeat (first | exact Below.refl _ _ | refine Below.drew ?_ | refine Below.drewN' ?_ _ | refine Below.alloc ?_ (by first | (simp; done) | (simp; omega)) _ | refine Below.setCell ?_ (by first | (simp; done) | (simp; omega)) _)); done)).mono ?_; rintro e w' ⟨rfl, rfl⟩) | (go_at_call 52; refine (CM.out (w.alloc (.cells #[.int .i64 (fn : Int), .int .i64 (tn : Int), .int .i64 x] 44)).drew _ (by simp)).mono ?_; rintro e w1 ⟨rfl, hbm⟩))
        all_goals
          obtain ⟨hb1, x0, x1, x2⟩ := HBW.out _ hbm
          have HX := Lib.hid (And.intro x0 (And.intro x1 x2))
          have HB1 := Lib.hid hb1
          clear hb1 hbm
          go_wp2_with (go_at_call 54; refine (IP.out _ HB1.out).mono ?_; rintro e w2 ⟨rfl, hb2⟩)
          have HB2 := Lib.hid (two_worlds HB1.out hb2)
          refine (CL.out _ HB2.out).mono ?_
          rintro e w3 ⟨g, cap, rfl, hb3, ho3⟩
          have y0 := kept_cell hb3 (kept_cell hb2 HX.out.1)
          have y1 := kept_cell hb3 (kept_cell hb2 HX.out.2.1)
          have y2 := kept_cell hb3 (kept_cell hb2 HX.out.2.2)
          have HG3 : Hid (w2.heap.size ≤ g) := own_ge ho3
          have hgs : g < w3.heap.size := (ho3.lt g rfl).2
          have AP := apply_any w2.heap.size g n0 cap l0 fn tn x w3 hn0 hfn htn hne hx (stB_tame HV.out) ho3 hgs
          have HB3 := Lib.hid (two_worlds HB2.out hb3)
          have hw2 := HB2.out.size
          clear hb2 hb3 ho3 x0 x1 x2
          go_wp2_with (go_at_call 56; refine AP.mono ?_; rintro e w4 ⟨rfl, hg4, ho4⟩)
          have HB4 : Hid (Below w.heap.size w w4) := HB3.out.grown hg4 HB3.out.size (fun k hk => by injection hk with hk; subst hk; have := HG3.out; omega)
          have HO4 := Lib.hid (own_lo ho4 hw2)
          clear hg4 ho4
          go_wp2
          go_ret2
          exact givesIs_of HR.out HB4.out HML.out HO4.out
      · have HR := Lib.hid (HNO.out h3)
        simp only [decide_eq_false h3] at IP
        clear h3 HGO HNO
        go_enter Try.func30, Try.ntmps30
        go_wp2_with fail
        go_region_held3 (fun w' => w'.cell? ⟨w.heap.size, 0, none⟩ = some (.int .i64 (fn : Int)) ∧ w'.cell? ⟨w.heap.size, 1, none⟩ = some (.int .i64 (tn : Int)) ∧ w'.cell? ⟨w.heap.size, 2, none⟩ = some (.int .i64 x)) (first | exact ⟨q0, q1, q2⟩ | exact ⟨by simp [go_sem], by simp [go_sem], by simp [go_sem]⟩ | exact (HBW.out _ hbm).2) (first | (go_at_call 53; refine (CS.out _ (by (repeat (first | exact Below.refl _ _ | refine Below.drew ?_ | refine Below.drewN' ?_ _ | refine Below.alloc ?_ (by first | (simp; done) | (simp; omega)) _ | refine Below.setCell ?_ (by first | (simp; done) | (simp; omega)) _)); done)).mono ?_; rintro e w' ⟨rfl, rfl⟩) | (go_at_call 52; refine (CM.out (w.alloc (.cells #[.int .i64 (fn : Int), .int .i64 (tn : Int), .int .i64 x] 44)).drew _ (by simp)).mono ?_; rintro e w1 ⟨rfl, hbm⟩))
        all_goals
          obtain ⟨hb1, x0, x1, x2⟩ := HBW.out _ hbm
          have HB1 := Lib.hid hb1
          clear hb1 hbm
          go_wp2_with (go_at_call 54; refine (IP.out _ HB1.out).mono ?_; rintro e w2 ⟨rfl, hb2⟩)
          go_ret2
          exact givesIs_nil HR.out (two_worlds HB1.out hb2)
end Go.Proofs.Ytabopjdcpllocaa
