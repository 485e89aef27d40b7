/-
  Guests that can go: the program's closures, guestsWhere, goers, restless, IsStuck; the model's l10Can, CanGo, l10Left, IsStuck.
-/
import Derived.Test.YtkfeihnapcfkgaaDoorRoomsV
import Derived.Laws.Bits64b
namespace Go.Proofs.YtkfeihnapcfkgaaDoor
open Go.RowKit

theorem shlG (j : Nat) (hj : j < 64) : IntKind.u64.wrap (2 ^ j) = ((2 ^ j : Nat) : Int) := by
  have h2 : 2 ^ j < 2 ^ 64 := Nat.pow_lt_pow_right (by decide) hj
  have e : (2 : Int) ^ j = ((2 ^ j : Nat) : Int) := by simp
  rw [e, IntKind.wrap_u64]
  clear e
  generalize 2 ^ j = b at h2 ⊢
  omega
theorem orG (x i : Nat) (hx : x < 1099511627776) (hi : i < 40) : bits BinOp.or IntKind.u64 (x : Int) (IntKind.u64.wrap (2 ^ i)) = ((x ||| 2 ^ i : Nat) : Int) := by
  have h2 : 2 ^ i < 2 ^ 64 := Nat.pow_lt_pow_right (by decide) (by omega)
  rw [shlG i (by omega)]
  exact bits_or_u64_nat _ _ (by omega) (by omega)
theorem kept_g {w w' : World} {p : Addr} {v : Value} (h : Below w.heap.size w w') (hc : w.cell? p = some v) : w'.cell? p = some v := (h.cell (World.block_lt_of_cell? w _ hc)).trans hc
set_option maxRecDepth 100000 in
theorem with_any (x k : Nat) (w : World) (hx : x < 1099511627776) (hk : k < 40) : Calls Tryd.prog 56 #[.int .u64 (x : Int), .int .i64 (k : Int)] w fun e w' => e = .returned (.int .u64 ((x ||| 2 ^ k : Nat) : Int)) ∧ w = w' := by
  have h := orG x k hx hk
  go_enter Tryd.func56, Tryd.ntmps56
  go_wp2
  go_ret
  exact ⟨rfl, rfl⟩
theorem rests_any (t1 t2 : Int) (w : World) : Calls Tryd.prog 53 #[.agg #[.int .i64 t1, .int .i64 t2]] w fun e w' => e = .returned (.bool (decide (t1 = t2))) ∧ Below w.heap.size w w' := by
  rcases eq_ways t1 t2 with ⟨⟨e1, e2⟩, e3⟩ | ⟨⟨e1, e2⟩, e3⟩
  · have HR : Hid (decide (t1 = t2) = true) := decide_eq_true e3
    clear e3
    go_enter Tryd.func53, Tryd.ntmps53
    go_wp2
    go_ret
    exact ⟨ret_bool (by rw [HR.out]), (by repeat (first | exact Below.refl _ _ | refine Below.alloc ?_ (by simp; try omega) _ | refine Below.setCell ?_ (by simp; try omega) _))⟩
  · have HR : Hid (decide (t1 = t2) = false) := decide_eq_false e3
    clear e3
    go_enter Tryd.func53, Tryd.ntmps53
    go_wp2
    go_ret
    exact ⟨ret_bool (by rw [HR.out]), (by repeat (first | exact Below.refl _ _ | refine Below.alloc ?_ (by simp; try omega) _ | refine Below.setCell ?_ (by simp; try omega) _))⟩
theorem lessT_any (ts : List TGuest) (w : World) : ∀ W, Below w.heap.size w W → ∀ t ∈ ts, Calls Tryd.prog 83 #[.agg #[.int .i64 t.1, .int .i64 t.2]] W fun e w' => e = .returned (.bool (lessG t)) ∧ Below W.heap.size W w' := by
  rintro W - ⟨t1, t2⟩ -
  have RS := fun W => rests_any t1 t2 W
  have HR : Hid (lessG (t1, t2) = !decide (t1 = t2)) := rfl
  dsimp only
  generalize decide (t1 = t2) = b at RS HR
  go_enter Tryd.func83, Tryd.ntmps83
  go_wp2_with (go_at_call 53; refine (RS _).mono ?_; rintro e w2 ⟨rfl, hb2⟩)
  go_ret
  exact ⟨ret_bool HR.out.symm, two_worlds (show Below W.heap.size W (W.alloc _) from (by repeat (first | exact Below.refl _ _ | refine Below.alloc ?_ (by simp; try omega) _ | refine Below.setCell ?_ (by simp; try omega) _))) hb2⟩
set_option maxHeartbeats 1000000 in
theorem canT_any (fr : List Int) (ts : List TGuest) (n g cap c0 : Nat) (w : World) (hn : Hid (fr.length = n)) (hg : guB n ts = true) (hc0 : w.cell? ⟨c0, 0, none⟩ = some (.slice (some ⟨g, 0, none⟩) n cap)) (hl : RI w (some ⟨g, 0, none⟩) fr) :
    ∀ W, Below w.heap.size w W → ∀ t ∈ ts, Calls Tryd.prog 81 #[.agg #[.int .i64 t.1, .int .i64 t.2], .pointer (some ⟨c0, 0, none⟩)] W fun e w' => e = .returned (.bool (canG fr t)) ∧ Below W.heap.size W w' := by
  intro W hW t ht
  obtain ⟨i, hi, rfl⟩ := List.getElem_of_mem ht
  obtain ⟨_, b3, b4⟩ := guB_at hg i hi
  have HB := Lib.hid hW
  have hlt0 := World.block_lt_of_cell? w _ hc0
  have HC : Hid (∀ w', Below w.heap.size w w' → w'.cell? ⟨c0, 0, none⟩ = some (.slice (some ⟨g, 0, none⟩) n cap)) := fun w' h => (h.cell (p := ⟨c0, 0, none⟩) hlt0).trans hc0
  have HL : Hid (∀ w', Below w.heap.size w w' → RI w' (some ⟨g, 0, none⟩) fr) := fun w' h => hl.below h
  have hws := hW.size
  generalize ts[i] = t at b3 b4
  obtain ⟨t1, t2⟩ := t
  dsimp only at b3 b4 ⊢
  have RS := fun W => rests_any t1 t2 W
  clear hW hl hc0 ht hg
  by_cases h1 : t1 = t2
  · have HR : Hid (canG fr (t1, t2) = false) := canG_rest h1
    simp only [decide_eq_true h1] at RS
    clear h1
    go_enter Tryd.func81, Tryd.ntmps81
    go_wp2_with (go_at_call 53; refine (RS _).mono ?_; rintro e w2 ⟨rfl, hb2⟩)
    go_ret
    exact ⟨ret_bool HR.out.symm, two_worlds (show Below W.heap.size W (W.alloc _) from (by repeat (first | exact Below.refl _ _ | refine Below.alloc ?_ (by simp; try omega) _ | refine Below.setCell ?_ (by simp; try omega) _))) hb2⟩
  · simp only [decide_eq_false h1] at RS
    have x2 : (W.alloc (.cells #[.int .i64 t1, .int .i64 t2] 35)).cell? ⟨W.heap.size, 1, none⟩ = some (.int .i64 t2) := by simp [go_sem]
    have HX2 := Lib.hid x2
    clear x2
    by_cases h2 : t2 = -1
    · have HR : Hid (canG fr (t1, t2) = true) := canG_out h1 h2
      clear h1
      subst h2
      go_enter Tryd.func81, Tryd.ntmps81
      go_wp2_with (go_at_call 53; refine (RS _).mono ?_; rintro e w2 ⟨rfl, hb2⟩; have y2 := kept_g hb2 HX2.out)
      go_ret
      exact ⟨ret_bool HR.out.symm, two_worlds (show Below W.heap.size W (W.alloc _) from (by repeat (first | exact Below.refl _ _ | refine Below.alloc ?_ (by simp; try omega) _ | refine Below.setCell ?_ (by simp; try omega) _))) hb2⟩
    · obtain ⟨r, rfl⟩ : ∃ r : Nat, t2 = r := ⟨t2.toNat, by omega⟩
      have hr : r < n := by omega
      have hrf : r < fr.length := by rw [hn.out]; exact hr
      have HR : Hid (canG fr (t1, (r : Int)) = decide (0 < fr[r])) := canG_in h1 rfl hrf
      clear h1
      have hne : ((r : Int) == -1) = false := by simp
      go_enter Tryd.func81, Tryd.ntmps81
      go_wp2_with (go_at_call 53; refine (RS _).mono ?_; rintro e w2 ⟨rfl, hb2⟩; have y2 := kept_g hb2 HX2.out; have hB2 := two_worlds HB.out (two_worlds (show Below W.heap.size W (W.alloc _) from (by repeat (first | exact Below.refl _ _ | refine Below.alloc ?_ (by simp; try omega) _ | refine Below.setCell ?_ (by simp; try omega) _))) hb2); have y3 := HC.out _ hB2; have y4 := (HL.out _ hB2).addrI r hrf; rw [Nat.zero_add] at y4)
      go_ret
      exact ⟨ret_bool HR.out.symm, two_worlds (show Below W.heap.size W (W.alloc _) from (by repeat (first | exact Below.refl _ _ | refine Below.alloc ?_ (by simp; try omega) _ | refine Below.setCell ?_ (by simp; try omega) _))) hb2⟩

set_option maxHeartbeats 2000000 in
theorem whereLess_any (ts : List TGuest) (a : Option Addr) (m d : Nat) (q : TGuest → Bool) (w : World) (hm : Hid (ts.length = m)) (ha : RR 2 cGuest w a ts) (hm8 : m ≤ 8)
    (hf : ∀ W, Below w.heap.size w W → ∀ t ∈ ts, Calls Tryd.prog 83 #[.agg #[.int .i64 t.1, .int .i64 t.2]] W fun e w' => e = .returned (.bool (q t)) ∧ Below W.heap.size W w') :
    Calls Tryd.prog 80 #[.slice a m d, .func (.func 83) #[] #[]] w fun e w' => e = .returned (.int .u64 ((setN (gsN q ts) m : Nat) : Int)) ∧ Below w.heap.size w w' := by
  have HF := Lib.hid hf
  have HA : Hid (∀ w', Below w.heap.size w w' → RR 2 cGuest w' a ts) := fun w' h => ha.below h
  clear hf ha
  go_enter Tryd.func80, Tryd.ntmps80
  go_wp2
  go_loopw [5, 10] (fun sv iv wr => ∃ k : Nat, k ≤ m ∧ sv = .int .u64 ((setN (gsN q ts) k : Nat) : Int) ∧ iv = .int .i64 (k : Int) ∧ Hid (Below w.heap.size w wr)) (fun _ iv _ => m - (intOf iv).toNat)
  case atStart => exact ⟨0, by omega, rfl, rfl, Below.refl _ _⟩
  case round =>
    obtain ⟨k, hk, rfl, rfl, HBEL⟩ := hrel
    by_cases hlt : k < m
    · have hka : k < ts.length := by rw [hm.out]; exact hlt
      have HQ := Lib.hid (gsN_at (q := q) hka)
      have HS8 : setN (gsN q ts) k < 1099511627776 := setN_lt64 _ (by omega)
      have HC := Lib.hid (fun W hW => HF.out W hW _ (List.getElem_mem hka))
      obtain ⟨b, off, rfl, hbl, hc⟩ := (HA.out _ HBEL.out).at_ k hka
      have x0 := hc 0 _ rfl
      have x1 := hc 1 _ rfl
      simp only [Nat.add_zero] at x0
      clear hc
      generalize ts[k] = t at x0 x1 HQ HC
      have hk0 : (0 : Int) ≤ (k : Int) := by omega
      have hk1 : (k : Int) < (m : Int) := by omega
      have hws := HBEL.out.size
      have WI := fun W => with_any (setN (gsN q ts) k) k W HS8 (by omega)
      cases hq : q t with
      | true =>
        have HN := Lib.hid (setN_succ_yes (HQ.out.trans hq))
        rw [hq] at HC
        clear HQ hq HS8
        rw [HN.out] at WI
        generalize setN (gsN q ts) k = x at WI
        go_wp2_with (first | (go_at_call 83; refine (HC.out _ (by repeat (first | exact HBEL.out | refine Below.alloc ?_ (by first | omega | (simp; done) | (simp; omega)) _ | refine Below.setCell ?_ (by first | omega | (simp; done) | (simp; omega)) _))).mono ?_; rintro e w2 ⟨rfl, hb2⟩) | (go_at_call 56; refine (WI _).mono ?_; rintro e w3 ⟨rfl, rfl⟩))
        have HB2 : Hid (Below w.heap.size w w2) := two_worlds (show Below w.heap.size w (wr.alloc _) from (by repeat (first | exact HBEL.out | refine Below.alloc ?_ (by first | omega | (simp; done) | (simp; omega)) _ | refine Below.setCell ?_ (by first | omega | (simp; done) | (simp; omega)) _))) hb2
        clear hb2
        go_roundw
        case rel => exact ⟨k + 1, by omega, rfl, by go_num, HB2⟩
        case measure => simp [intOf]; omega
      | false =>
        have HN := Lib.hid (setN_succ_no (HQ.out.trans hq))
        rw [hq] at HC
        clear HQ hq HS8 WI
        go_wp2_with (go_at_call 83; refine (HC.out _ (by repeat (first | exact HBEL.out | refine Below.alloc ?_ (by first | omega | (simp; done) | (simp; omega)) _ | refine Below.setCell ?_ (by first | omega | (simp; done) | (simp; omega)) _))).mono ?_; rintro e w2 ⟨rfl, hb2⟩)
        have HB2 : Hid (Below w.heap.size w w2) := two_worlds (show Below w.heap.size w (wr.alloc _) from (by repeat (first | exact HBEL.out | refine Below.alloc ?_ (by first | omega | (simp; done) | (simp; omega)) _ | refine Below.setCell ?_ (by first | omega | (simp; done) | (simp; omega)) _))) hb2
        clear hb2
        go_wp2
        go_roundw
        case rel => exact ⟨k + 1, by omega, by rw [HN.out], by go_num, HB2⟩
        case measure => simp [intOf]; omega
    · have hkm : k = m := by omega
      subst hkm
      go_wp2
      go_ret
      exact ⟨rfl, HBEL.out⟩

set_option maxHeartbeats 2000000 in
theorem whereCan_any (ts : List TGuest) (a : Option Addr) (m d : Nat) (q : TGuest → Bool) (c0 : Nat) (w : World) (hm : Hid (ts.length = m)) (ha : RR 2 cGuest w a ts) (hm8 : m ≤ 8)
    (hf : ∀ W, Below w.heap.size w W → ∀ t ∈ ts, Calls Tryd.prog 81 #[.agg #[.int .i64 t.1, .int .i64 t.2], .pointer (some ⟨c0, 0, none⟩)] W fun e w' => e = .returned (.bool (q t)) ∧ Below W.heap.size W w') :
    Calls Tryd.prog 80 #[.slice a m d, .func (.func 81) #[] #[.pointer (some ⟨c0, 0, none⟩)]] w fun e w' => e = .returned (.int .u64 ((setN (gsN q ts) m : Nat) : Int)) ∧ Below w.heap.size w w' := by
  have HF := Lib.hid hf
  have HA : Hid (∀ w', Below w.heap.size w w' → RR 2 cGuest w' a ts) := fun w' h => ha.below h
  clear hf ha
  go_enter Tryd.func80, Tryd.ntmps80
  go_wp2
  go_loopw [5, 10] (fun sv iv wr => ∃ k : Nat, k ≤ m ∧ sv = .int .u64 ((setN (gsN q ts) k : Nat) : Int) ∧ iv = .int .i64 (k : Int) ∧ Hid (Below w.heap.size w wr)) (fun _ iv _ => m - (intOf iv).toNat)
  case atStart => exact ⟨0, by omega, rfl, rfl, Below.refl _ _⟩
  case round =>
    obtain ⟨k, hk, rfl, rfl, HBEL⟩ := hrel
    by_cases hlt : k < m
    · have hka : k < ts.length := by rw [hm.out]; exact hlt
      have HQ := Lib.hid (gsN_at (q := q) hka)
      have HS8 : setN (gsN q ts) k < 1099511627776 := setN_lt64 _ (by omega)
      have HC := Lib.hid (fun W hW => HF.out W hW _ (List.getElem_mem hka))
      obtain ⟨b, off, rfl, hbl, hc⟩ := (HA.out _ HBEL.out).at_ k hka
      have x0 := hc 0 _ rfl
      have x1 := hc 1 _ rfl
      simp only [Nat.add_zero] at x0
      clear hc
      generalize ts[k] = t at x0 x1 HQ HC
      have hk0 : (0 : Int) ≤ (k : Int) := by omega
      have hk1 : (k : Int) < (m : Int) := by omega
      have hws := HBEL.out.size
      have WI := fun W => with_any (setN (gsN q ts) k) k W HS8 (by omega)
      cases hq : q t with
      | true =>
        have HN := Lib.hid (setN_succ_yes (HQ.out.trans hq))
        rw [hq] at HC
        clear HQ hq HS8
        rw [HN.out] at WI
        generalize setN (gsN q ts) k = x at WI
        go_wp2_with (first | (go_at_call 81; refine (HC.out _ (by repeat (first | exact HBEL.out | refine Below.alloc ?_ (by first | omega | (simp; done) | (simp; omega)) _ | refine Below.setCell ?_ (by first | omega | (simp; done) | (simp; omega)) _))).mono ?_; rintro e w2 ⟨rfl, hb2⟩) | (go_at_call 56; refine (WI _).mono ?_; rintro e w3 ⟨rfl, rfl⟩))
        have HB2 : Hid (Below w.heap.size w w2) := two_worlds (show Below w.heap.size w (wr.alloc _) from (by repeat (first | exact HBEL.out | refine Below.alloc ?_ (by first | omega | (simp; done) | (simp; omega)) _ | refine Below.setCell ?_ (by first | omega | (simp; done) | (simp; omega)) _))) hb2
        clear hb2
        go_roundw
        case rel => exact ⟨k + 1, by omega, rfl, by go_num, HB2⟩
        case measure => simp [intOf]; omega
      | false =>
        have HN := Lib.hid (setN_succ_no (HQ.out.trans hq))
        rw [hq] at HC
        clear HQ hq HS8 WI
        go_wp2_with (go_at_call 81; refine (HC.out _ (by repeat (first | exact HBEL.out | refine Below.alloc ?_ (by first | omega | (simp; done) | (simp; omega)) _ | refine Below.setCell ?_ (by first | omega | (simp; done) | (simp; omega)) _))).mono ?_; rintro e w2 ⟨rfl, hb2⟩)
        have HB2 : Hid (Below w.heap.size w w2) := two_worlds (show Below w.heap.size w (wr.alloc _) from (by repeat (first | exact HBEL.out | refine Below.alloc ?_ (by first | omega | (simp; done) | (simp; omega)) _ | refine Below.setCell ?_ (by first | omega | (simp; done) | (simp; omega)) _))) hb2
        clear hb2
        go_wp2
        go_roundw
        case rel => exact ⟨k + 1, by omega, by rw [HN.out], by go_num, HB2⟩
        case measure => simp [intOf]; omega
    · have hkm : k = m := by omega
      subst hkm
      go_wp2
      go_ret
      exact ⟨rfl, HBEL.out⟩

theorem restless_any (ts : List TGuest) (a : Option Addr) (m d : Nat) (w : World) (hm : Hid (ts.length = m)) (ha : RR 2 cGuest w a ts) (hm8 : m ≤ 8) :
    Calls Tryd.prog 47 #[.slice a m d] w fun e w' => e = .returned (.int .u64 ((setN (lessN ts) m : Nat) : Int)) ∧ Below w.heap.size w w' := by
  have WL := whereLess_any ts a m d lessG w hm ha hm8 (lessT_any ts w)
  clear ha
  go_enter Tryd.func47, Tryd.ntmps47
  go_wp2_with (go_at_call 80; refine WL.mono ?_; rintro e w2 ⟨rfl, hb2⟩)
  go_ret
  exact ⟨rfl, hb2⟩
set_option maxHeartbeats 1000000 in
theorem goers_any (bb ob : Nat) (a : Option Addr) (l : List Int) (ts : List TGuest) (n m c d : Nat) (w : World) (hn : Hid (l.length = n)) (hm : Hid (ts.length = m)) (hl : RI w (some ⟨bb, ob, none⟩) l) (ha : RR 2 cGuest w a ts) (hn0 : 0 < n) (hsn : n ≤ 1048576) (hm8 : m ≤ 8) (hp : Pl l) (hg : guB n ts = true) :
    Calls Tryd.prog 45 #[.slice (some ⟨bb, ob, none⟩) n c, .slice a m d] w fun e w' => e = .returned (.int .u64 ((setN (canN l ts) m : Nat) : Int)) ∧ Below w.heap.size w w' := by
  have FP := freePlaces_any bb ob a l ts n m c d w hn hm hl ha hn0 hsn (by omega) hp hg
  have HFL : Hid ((freeAt l ts m).length = n) := by unfold Hid; rw [freeAt_len]; exact hn.out
  have WC : Hid (∀ (W : World) (g cap : Nat) (lo : Nat), Below w.heap.size w W → W.ownsRow lo 2 1 (.slice (some ⟨g, 0, none⟩) n cap) n ((freeAt l ts m).map (Value.int .i64)) →
      Calls Tryd.prog 80 #[.slice a m d, .func (.func 81) #[] #[.pointer (some ⟨W.heap.size, 0, none⟩)]] (W.alloc (.cells #[.slice (some ⟨g, 0, none⟩) n cap] 24)) fun e w' => e = .returned (.int .u64 ((setN (canN l ts) m : Nat) : Int)) ∧ Below (W.alloc (.cells #[.slice (some ⟨g, 0, none⟩) n cap] 24)).heap.size (W.alloc (.cells #[.slice (some ⟨g, 0, none⟩) n cap] 24)) w') := by
    intro W g cap lo hW ho
    have hb : Below W.heap.size W (W.alloc (.cells #[.slice (some ⟨g, 0, none⟩) n cap] 24)) := (by repeat (first | exact Below.refl _ _ | refine Below.alloc ?_ (by simp; try omega) _ | refine Below.setCell ?_ (by simp; try omega) _))
    have e : canN l ts = gsN (canG (freeAt l ts m)) ts := by unfold canN; rw [hm.out]
    rw [e]
    exact whereCan_any ts a m d _ W.heap.size _ hm (ha.below (two_worlds hW hb)) hm8 (canT_any _ ts n g cap _ _ HFL hg (by simp [go_sem]) ((rowI_RI HFL ho).below hb))
  clear hl ha hp hg
  go_enter Tryd.func45, Tryd.ntmps45
  go_wp2_with (first | (go_at_call 44; refine FP.mono ?_; rintro e w2 ⟨g, cap, rfl, hb2, ho2⟩) | (go_at_call 80; refine (WC.out _ _ _ _ hb2 ho2).mono ?_; rintro e w3 ⟨rfl, hb3⟩))
  go_ret
  exact ⟨rfl, two_worlds (show Below w.heap.size w (w2.alloc _) from two_worlds hb2 (by repeat (first | exact Below.refl _ _ | refine Below.alloc ?_ (by simp; try omega) _ | refine Below.setCell ?_ (by simp; try omega) _))) hb3⟩
end Go.Proofs.YtkfeihnapcfkgaaDoor
