/-
  Blowers: sets as bits, what a set has together, the bank of all sets: the walks.
-/
import Derived.Test.YtiilgeoahpnkpaaBlow1
import Derived.Test.YtiilgeoahpnkpaaBlowApp
import Derived.Laws.BitsLemmas
namespace Go.Proofs.Ytiilgeoahpnkpaa
open Go.RowKit

theorem wrI {x : Int} (h : -1000000000 ≤ x ∧ x ≤ 1000000000) : IntKind.i64.wrap x = x := by rw [IntKind.wrap_i64]; omega
theorem wrI2 : ∀ n : Int, 0 ≤ n → n < 2 ^ 63 → IntKind.i64.wrap n = n := fun n h0 h1 => by rw [IntKind.wrap_i64]; omega
theorem hasB1 (x k : Nat) : x / 2 ^ k &&& 1 = if x.testBit k then 1 else 0 := by
  rw [Nat.and_one_is_mod, Nat.testBit_eq_decide_div_mod_eq]
  have := Nat.mod_two_eq_zero_or_one (x / 2 ^ k)
  split <;> simp_all
theorem hasI (s k : Nat) (hs : s < 1048576) : (bits BinOp.and IntKind.i64 ((s : Int) / 2 ^ k) 1 == 1) = s.testBit k := by
  have hd : (s : Int) / 2 ^ k = ((s / 2 ^ k : Nat) : Int) := by rw [Int.natCast_ediv]; simp
  have h1 : s / 2 ^ k ≤ s := Nat.div_le_self _ _
  have := (bits_nat .i64 63 (by decide) wrI2 (s / 2 ^ k) 1 (by omega) (by decide)).1
  rw [hd, show (1 : Int) = ((1 : Nat) : Int) from rfl, this, hasB1]
  cases s.testBit k <;> rfl
set_option maxRecDepth 100000 in
theorem l11Has_any (s k : Nat) (w : World) (hs : s < 1048576) (hk : k < 40) : Calls Try.prog 89 #[.int .i64 s, .int .i64 k] w fun e w' => e = .returned (.bool (s.testBit k)) ∧ w = w' := by
  have H := Lib.hid (hasI s k hs)
  go_enter Try.func89, Try.ntmps89
  go_wp2
  go_ret
  exact ⟨ret_bool H.out, rfl⟩
set_option maxRecDepth 100000 in
theorem isInSet_any (s k : Nat) (w : World) (hs : s < 1048576) (hk : k < 40) : Calls Try.prog 86 #[.int .i64 s, .int .i64 k] w fun e w' => e = .returned (.bool (s.testBit k)) ∧ w = w' := by
  have H := Lib.hid (hasI s k hs)
  go_enter Try.func86, Try.ntmps86
  go_wp2
  go_ret
  exact ⟨ret_bool H.out, rfl⟩

set_option maxHeartbeats 1000000 in
theorem l11Power_any (a : Option Addr) (ts : List TBlower) (n ca s : Nat) (w : World) (hn : Hid (ts.length = n)) (ha : RR 3 cBlower w a ts) (hb : blsB ts = true) (hs : s < 1048576) :
    Calls Try.prog 65 #[.slice a n ca, .int .i64 s] w fun e w' => e = .returned (.int .i64 (sumS (pwN ts) s n)) ∧ w = w' := by
  have HA := Lib.hid ha
  have HB := Lib.hid hb
  have hn4 : n ≤ 4 := by rw [← hn.out]; exact (blsB_of hb).1
  clear ha hb
  go_enter Try.func65, Try.ntmps65
  go_wp2
  go_loop [5, 6] (fun v i => ∃ (k : Nat) (x : Int), k ≤ n ∧ i = .int .i64 k ∧ v = .int .i64 x ∧ Hid (x = sumS (pwN ts) s k)) (fun _ i => n - (intOf i).toNat)
  case atStart => exact ⟨0, 0, by omega, rfl, rfl, rfl⟩
  case round =>
    obtain ⟨k, x, hk, rfl, rfl, HX⟩ := hrel
    by_cases hlt : k < n
    · have hka : k < ts.length := by rw [hn.out]; exact hlt
      have hbd := (sums_bd HB.out s (k := k) (by omega)).1
      rw [← HX.out] at hbd
      have htb := ((blsB_of HB.out).2 k hka).1
      have HY : Hid (s.testBit k = true → x + ts[k].1 = sumS (pwN ts) s (k + 1)) := fun h => by rw [sumS_yes h, pwN_at hka, HX.out]
      have HNO : Hid (s.testBit k = false → x = sumS (pwN ts) s (k + 1)) := fun h => by rw [sumS_no h, HX.out]
      obtain ⟨b, off, rfl, hbl, hc⟩ := HA.out.at_ k hka
      have x0 := hc 0 _ rfl
      simp only [Nat.add_zero] at x0
      clear hc
      generalize ts[k] = t at x0 htb HY
      obtain ⟨t1, t2, t3⟩ := t
      dsimp only at x0 htb HY
      have hwr := wrI (x := x + t1) (by omega)
      have hk0 : (0 : Int) ≤ (k : Int) := by omega
      have hk1 : (k : Int) < (n : Int) := by omega
      have HF := fun W => l11Has_any s k W hs (by omega)
      cases hbit : s.testBit k with
      | true =>
        have HY2 := Lib.hid (HY.out hbit)
        rw [hbit] at HF
        clear HY HNO hbit
        go_wp2_with (go_at_call 89; refine (HF _).mono ?_; rintro e w4 ⟨rfl, rfl⟩)
        go_round
        case rel => exact ⟨k + 1, x + t1, by omega, by go_num, by first | rfl | rw [hwr], HY2⟩
        case measure => simp [intOf]; omega
      | false =>
        have HY2 := Lib.hid (HNO.out hbit)
        rw [hbit] at HF
        clear HY HNO hbit
        go_wp2_with (go_at_call 89; refine (HF _).mono ?_; rintro e w4 ⟨rfl, rfl⟩)
        go_round
        case rel => exact ⟨k + 1, x, by omega, by go_num, rfl, HY2⟩
        case measure => simp [intOf]; omega
    · have hkn : k = n := by omega
      subst hkn
      go_wp2
      go_ret
      exact ⟨ret_int HX.out, rfl⟩

set_option maxHeartbeats 2000000 in
theorem l11Step_any (a : Option Addr) (ts : List TBlower) (n ca bf s : Nat) (w : World) (hn : Hid (ts.length = n)) (ha : RR 3 cBlower w a ts) (hb : blsB ts = true) (hs : s < 1048576) (hs2 : bf < 1048576) :
    Calls Try.prog 66 #[.slice a n ca, .int .i64 bf, .int .i64 s] w fun e w' => e = .returned (.int .i64 (stepS ts bf s)) ∧ w = w' := by
  have HA := Lib.hid ha
  have HB := Lib.hid hb
  have hn4 : n ≤ 4 := by rw [← hn.out]; exact (blsB_of hb).1
  clear ha hb
  go_enter Try.func66, Try.ntmps66
  go_wp2
  go_loop [7, 8] (fun v i => ∃ (k : Nat) (x : Int), k ≤ n ∧ i = .int .i64 k ∧ v = .int .i64 x ∧ Hid (x = stepK ts bf s k)) (fun _ i => n - (intOf i).toNat)
  case atStart => exact ⟨0, 0, by omega, rfl, rfl, rfl⟩
  case round =>
    obtain ⟨k, x, hk, rfl, rfl, HX⟩ := hrel
    by_cases hlt : k < n
    · have hka : k < ts.length := by rw [hn.out]; exact hlt
      have hbd := stepK_bd HB.out bf s (k := k) (by omega)
      rw [← HX.out] at hbd
      have htb := ((blsB_of HB.out).2 k hka).2
      have HRUN : Hid (s.testBit k = true → bf.testBit k = true → x + ts[k].2.1 = stepK ts bf s (k + 1)) := fun h h2 => by rw [stepK_run (by omega) hka h h2, HX.out]
      have HST : Hid (s.testBit k = true → bf.testBit k = false → x + ts[k].2.1 + ts[k].2.2 = stepK ts bf s (k + 1)) := fun h h2 => by rw [stepK_start (by omega) hka h h2, HX.out]
      have HNO : Hid (s.testBit k = false → x = stepK ts bf s (k + 1)) := fun h => by rw [stepK_no (by omega) h, HX.out]
      obtain ⟨b, off, rfl, hbl, hc⟩ := HA.out.at_ k hka
      have x1 := hc 1 _ rfl
      have x2 := hc 2 _ rfl
      clear hc
      generalize ts[k] = t at x1 x2 htb HRUN HST
      obtain ⟨t1, t2, t3⟩ := t
      dsimp only at x1 x2 htb HRUN HST
      have hwr := wrI (x := x + t2) (by omega)
      have hwr2 := wrI (x := x + t2 + t3) (by omega)
      have hk0 : (0 : Int) ≤ (k : Int) := by omega
      have hk1 : (k : Int) < (n : Int) := by omega
      have HF := fun W => l11Has_any s k W hs (by omega)
      have HG := fun W => l11Has_any bf k W hs2 (by omega)
      cases hbit : s.testBit k with
      | true =>
        rw [hbit] at HF
        cases hbit2 : bf.testBit k with
        | true =>
          have HY2 := Lib.hid (HRUN.out hbit hbit2)
          rw [hbit2] at HG
          clear HRUN HST HNO hbit hbit2
          go_wp2_with (go_at_call 89; first | (with_reducible refine Calls.mono (HF _) ?_; rintro e w4 ⟨rfl, rfl⟩) | (with_reducible refine Calls.mono (HG _) ?_; rintro e w4 ⟨rfl, rfl⟩))
          go_round
          case rel => exact ⟨k + 1, x + t2, by omega, by go_num, by first | rfl | rw [hwr], HY2⟩
          case measure => simp [intOf]; omega
        | false =>
          have HY2 := Lib.hid (HST.out hbit hbit2)
          rw [hbit2] at HG
          clear HRUN HST HNO hbit hbit2
          go_wp2_with (go_at_call 89; first | (with_reducible refine Calls.mono (HF _) ?_; rintro e w4 ⟨rfl, rfl⟩) | (with_reducible refine Calls.mono (HG _) ?_; rintro e w4 ⟨rfl, rfl⟩))
          go_round
          case rel => exact ⟨k + 1, x + t2 + t3, by omega, by go_num, by first | rfl | rw [hwr2] | rw [hwr, hwr2], HY2⟩
          case measure => simp [intOf]; omega
      | false =>
        have HY2 := Lib.hid (HNO.out hbit)
        rw [hbit] at HF
        clear HRUN HST HNO hbit
        go_wp2_with (go_at_call 89; refine (HF _).mono ?_; rintro e w4 ⟨rfl, rfl⟩)
        go_round
        case rel => exact ⟨k + 1, x, by omega, by go_num, rfl, HY2⟩
        case measure => simp [intOf]; omega
    · have hkn : k = n := by omega
      subst hkn
      have HE : Hid (stepS ts bf s = x) := by unfold Hid; rw [HX.out, ← hn.out]; rfl
      go_wp2
      go_ret
      exact ⟨ret_int HE.out.symm, rfl⟩
theorem shlI {n : Nat} (h : n ≤ 4) : IntKind.i64.wrap (2 ^ n) = ((2 ^ n : Nat) : Int) ∧ IntKind.i64.wrap (1 * 2 ^ n) = ((2 ^ n : Nat) : Int) := by
  match n, h with
  | 0, _ => decide
  | 1, _ => decide
  | 2, _ => decide
  | 3, _ => decide
  | 4, _ => decide
theorem l11Set_any (a : Option Addr) (n ca : Nat) (f : Int) (w : World) (hn : n ≤ 4) : Calls Try.prog 85 #[.slice a n ca, .int .i64 f] w fun e w' => e = .returned (.bool (setB n f)) ∧ w = w' := by
  obtain ⟨h1, h2⟩ := shlI hn
  have hp := Nat.two_pow_pos n
  have hp2 := pow_le16 hn
  have HIN : Hid (∀ W, Calls Try.prog 74 #[.int .i64 f, .int .i64 0, .int .i64 (((2 ^ n : Nat) : Int) - 1)] W fun e w' => e = .returned (.bool (setB n f)) ∧ W = w') := fun W => l00In_any _ _ _ W
  generalize 2 ^ n = m at h1 h2 hp hp2 HIN
  have hw := wrI (x := (m : Int) - 1) (by omega)
  go_enter Try.func85, Try.ntmps85
  go_wp2_with (go_at_call 74; refine (HIN.out _).mono ?_; rintro e w' ⟨rfl, rfl⟩)
  go_ret
  exact ⟨rfl, rfl⟩
theorem lastSet_any (a : Option Addr) (n ca : Nat) (w : World) (hm : n ≤ 1048576) : Calls Try.prog 105 #[.slice a n ca] w fun e w' => (∃ x : Int, e = .returned (.int .i64 x) ∧ (n ≤ 4 → x = ((2 ^ n : Nat) : Int) - 1)) ∧ w = w' := by
  have H : Hid (n ≤ 4 → RowKit.wrap64 (RowKit.wrap64 (2 ^ min n 64) - 1) = ((2 ^ n : Nat) : Int) - 1) := fun hn => by
    obtain ⟨h1, h2⟩ := shlI hn
    have hp := Nat.two_pow_pos n
    have hp2 := pow_le16 hn
    have e : ∀ z, RowKit.wrap64 z = IntKind.i64.wrap z := fun z => by rw [IntKind.wrap_i64, RowKit.wrap64]
    rw [Nat.min_eq_left (by omega), e, e, h1]
    exact wrI (by omega)
  go_enter Try.func105, Try.ntmps105
  go_wp2
  go_ret
  exact ⟨⟨_, rfl, H.out⟩, rfl⟩
end Go.Proofs.Ytiilgeoahpnkpaa
