/-
  Blowers: StartsOfBlower, HoursOfBlower, LongestRun: the model's walks.
-/
import Derived.Test.YtiilgeoahpnkpaaBlowRuns
import Derived.OwnWalk
namespace Go.Proofs.Ytiilgeoahpnkpaa
open Go.RowKit

/-- What the walks over a blower's hours take of valid arguments. -/
structure OfK (ts : List TBlower) (l : List Int) (k n m : Nat) : Prop where
  val : blsB ts = true
  lt : k < n
  four : k < 4
  day : m ≤ 24
  sets : ∀ i, i < m → ∃ s : Nat, l.getD i 0 = (s : Int) ∧ s < 16
  bef : ∀ i, i ≤ m → befN l i < 16
theorem ofk_of {ts : List TBlower} {l : List Int} {f : Int} {n m : Nat} (hn : ts.length = n) (hm : l.length = m) (h : kcode ts l f = 0) : ∃ k : Nat, f = (k : Int) ∧ Hid (OfK ts l k n m) := by
  obtain ⟨h1, h2, k, e, hk⟩ := kcode_of h
  subst hn hm
  have h4 := (blsB_of h1).1
  have h16 := pow_le16 h4
  refine ⟨k, e, h1, hk, by omega, (dayB_of h2).1, fun i hi => ?_, fun i hi => ?_⟩
  · rw [getD_atI hi]
    obtain ⟨s, e1, e2⟩ := (dayB_of h2).2 i hi
    exact ⟨s, e1, by omega⟩
  · have := befN_lt h2 hi
    omega
set_option maxRecDepth 20000 in
set_option maxHeartbeats 2000000 in
theorem specHoursOfBlower_any (w : World) {a0 : Option Addr} {n0 c0 : Nat} (ts0 : List TBlower) (hn0 : Hid (ts0.length = n0)) (h0 : RR 3 cBlower w a0 ts0) (hs0 : n0 ≤ 1048576) (_wf0 : Hid (∀ t ∈ ts0, wfBlower t)) {a1 : Option Addr} {n1 c1 : Nat} (l1 : List Int) (hn1 : Hid (l1.length = n1)) (h1 : RI w a1 l1) (hs1 : n1 ≤ 1048576) (_wf1 : Hid (∀ k ∈ l1, (Lit.int .i64 k).wf = true)) (f2 : Int) (_wf2 : (Lit.int .i64 f2).wf = true) :
    Calls Try.prog 45 #[.slice a0 n0 c0, .slice a1 n1 c1, .int .i64 f2] w fun e w' => e = .returned (.tuple #[.int .i64 (hourOf ts0 l1 f2).1, .int .i64 (hourOf ts0 l1 f2).2]) ∧ Below w.heap.size w w' := by
  have CS := l11One_any a0 ts0 n0 c0 a1 l1 n1 c1 f2 w hn0 h0 hs0 hn1 h1 hs1
  rcases eq_ways (kcode ts0 l1 f2) 0 with ⟨⟨k1, k2⟩, hd⟩ | ⟨⟨k1, k2⟩, hd⟩
  rotate_left
  · have HR : Hid (hourOf ts0 l1 f2 = (0, kcode ts0 l1 f2)) := by unfold Hid hourOf; rw [if_neg hd]
    clear h0 h1 hd
    go_enter Try.func45, Try.ntmps45
    go_wp2_with (first | (go_at_call 96; refine CS.mono ?_; rintro e w1 ⟨rfl, hb1⟩))
    go_ret2
    rw [HR.out]
    exact ⟨rfl, hb1⟩
  obtain ⟨k, rfl, HM⟩ := ofk_of hn0.out hn1.out hd
  have h24 := HM.out.day
  have hk4 := HM.out.four
  have HR : Hid (hourOf ts0 l1 (k : Int) = ((hoursN (qB l1 k) n1 : Int), 0)) := by unfold Hid hourOf; rw [if_pos hd, hn1.out, Int.toNat_natCast]
  have HRI : Hid (∀ W, Below w.heap.size w W → RI W a1 l1) := fun W h => h1.below h
  rw [hd] at CS
  clear h0 h1 hd k1 k2
  go_enter Try.func45, Try.ntmps45
  go_wp2_with (first | (go_at_call 96; refine CS.mono ?_; rintro e w1 ⟨rfl, hb1⟩; have HB1 := Lib.hid hb1; clear hb1))
  go_loop [9, 10] (fun v iv => ∃ i x : Nat, i ≤ n1 ∧ iv = .int .i64 i ∧ v = .int .i64 x ∧ x ≤ i ∧ Hid (x = hoursN (qB l1 k) i)) (fun _ iv => n1 - (intOf iv).toNat)
  case atStart => exact ⟨0, 0, by omega, rfl, rfl, by omega, rfl⟩
  case round =>
    obtain ⟨i, x, hk, rfl, rfl, hx, HX⟩ := hrel
    by_cases hlt : i < n1
    · have hka : i < l1.length := by rw [hn1.out]; exact hlt
      obtain ⟨bb, ob, rfl, hbl, x1⟩ := (HRI.out _ HB1.out).at_ i hka
      obtain ⟨s, hs, hs2⟩ := HM.out.sets i hlt
      rw [← getD_atI hka, hs] at x1
      have HQ : Hid (qB l1 k i = s.testBit k) := by unfold Hid qB; rw [hs]; simp
      have hk0 : (0 : Int) ≤ (i : Int) := by omega
      have hk1 : (i : Int) < (n1 : Int) := by omega
      have HF := fun W => l11Has_any s k W (by omega) (by omega)
      cases hbit : s.testBit k with
      | true =>
        have HN : Hid (x + 1 = hoursN (qB l1 k) (i + 1)) := by unfold Hid; rw [hoursN, HQ.out, hbit, HX.out]; rfl
        rw [hbit] at HF
        clear hbit hs
        go_wp2_with (go_at_call 89; refine (HF _).mono ?_; rintro e w4 ⟨rfl, rfl⟩)
        go_round
        case rel => exact ⟨i + 1, x + 1, by omega, by go_num, by go_num, by omega, HN⟩
        case measure => simp [intOf]; omega
      | false =>
        have HN : Hid (x = hoursN (qB l1 k) (i + 1)) := by unfold Hid; rw [hoursN, HQ.out, hbit, HX.out]; rfl
        rw [hbit] at HF
        clear hbit hs
        go_wp2_with (go_at_call 89; refine (HF _).mono ?_; rintro e w4 ⟨rfl, rfl⟩)
        go_round
        case rel => exact ⟨i + 1, x, by omega, by go_num, rfl, by omega, HN⟩
        case measure => simp [intOf]; omega
    · have hkm : i = n1 := by omega
      subst hkm
      go_wp2
      go_ret2
      rw [HR.out, ← HX.out]
      exact ⟨rfl, HB1.out⟩
set_option maxRecDepth 20000 in
set_option maxHeartbeats 2000000 in
theorem specStartsOfBlower_any (w : World) {a0 : Option Addr} {n0 c0 : Nat} (ts0 : List TBlower) (hn0 : Hid (ts0.length = n0)) (h0 : RR 3 cBlower w a0 ts0) (hs0 : n0 ≤ 1048576) (_wf0 : Hid (∀ t ∈ ts0, wfBlower t)) {a1 : Option Addr} {n1 c1 : Nat} (l1 : List Int) (hn1 : Hid (l1.length = n1)) (h1 : RI w a1 l1) (hs1 : n1 ≤ 1048576) (_wf1 : Hid (∀ k ∈ l1, (Lit.int .i64 k).wf = true)) (f2 : Int) (_wf2 : (Lit.int .i64 f2).wf = true) :
    Calls Try.prog 44 #[.slice a0 n0 c0, .slice a1 n1 c1, .int .i64 f2] w fun e w' => e = .returned (.tuple #[.int .i64 (startOf ts0 l1 f2).1, .int .i64 (startOf ts0 l1 f2).2]) ∧ Below w.heap.size w w' := by
  have CS := l11One_any a0 ts0 n0 c0 a1 l1 n1 c1 f2 w hn0 h0 hs0 hn1 h1 hs1
  rcases eq_ways (kcode ts0 l1 f2) 0 with ⟨⟨k1, k2⟩, hd⟩ | ⟨⟨k1, k2⟩, hd⟩
  rotate_left
  · have HR : Hid (startOf ts0 l1 f2 = (0, kcode ts0 l1 f2)) := by unfold Hid startOf; rw [if_neg hd]
    clear h0 h1 hd
    go_enter Try.func44, Try.ntmps44
    go_wp2_with (first | (go_at_call 96; refine CS.mono ?_; rintro e w1 ⟨rfl, hb1⟩))
    go_ret2
    rw [HR.out]
    exact ⟨rfl, hb1⟩
  obtain ⟨k, rfl, HM⟩ := ofk_of hn0.out hn1.out hd
  have h24 := HM.out.day
  have hk4 := HM.out.four
  have HR : Hid (startOf ts0 l1 (k : Int) = ((startsN (qB l1 k) n1 : Int), 0)) := by unfold Hid startOf; rw [if_pos hd, hn1.out, Int.toNat_natCast]
  have HRI : Hid (∀ W, Below w.heap.size w W → RI W a1 l1) := fun W h => h1.below h
  rw [hd] at CS
  clear h0 h1 hd k1 k2
  go_enter Try.func44, Try.ntmps44
  go_wp2_with (first | (go_at_call 96; refine CS.mono ?_; rintro e w1 ⟨rfl, hb1⟩; have HB1 := Lib.hid hb1; clear hb1))
  go_loop [9, 10] (fun v iv => ∃ i x : Nat, i ≤ n1 ∧ iv = .int .i64 i ∧ v = .int .i64 x ∧ x ≤ i ∧ Hid (x = startsN (qB l1 k) i)) (fun _ iv => n1 - (intOf iv).toNat)
  case atStart => exact ⟨0, 0, by omega, rfl, rfl, by omega, rfl⟩
  case round =>
    obtain ⟨i, x, hk, rfl, rfl, hx, HX⟩ := hrel
    by_cases hlt : i < n1
    · have hka : i < l1.length := by rw [hn1.out]; exact hlt
      obtain ⟨bb, ob, rfl, hbl, x1⟩ := (HRI.out _ HB1.out).at_ i hka
      obtain ⟨s, hs, hs2⟩ := HM.out.sets i hlt
      rw [← getD_atI hka, hs] at x1
      have HQ : Hid (qB l1 k i = s.testBit k) := by unfold Hid qB; rw [hs]; simp
      have hk0 : (0 : Int) ≤ (i : Int) := by omega
      have hk1 : (i : Int) < (n1 : Int) := by omega
      have HF := fun W => l11Has_any s k W (by omega) (by omega)
      cases hbit : s.testBit k with
      | false =>
        have HN : Hid (x = startsN (qB l1 k) (i + 1)) := by unfold Hid; rw [startsN, HQ.out, hbit, HX.out]; rfl
        rw [hbit] at HF
        clear hbit hs
        go_wp2_with (go_at_call 89; refine (HF _).mono ?_; rintro e w4 ⟨rfl, rfl⟩)
        go_round
        case rel => exact ⟨i + 1, x, by omega, by go_num, rfl, by omega, HN⟩
        case measure => simp [intOf]; omega
      | true =>
        have HY : Hid (befB (qB l1 k) i = false → x + 1 = startsN (qB l1 k) (i + 1)) := fun h => by rw [startsN, HQ.out, hbit, h, HX.out]; rfl
        have HNO : Hid (befB (qB l1 k) i = true → x = startsN (qB l1 k) (i + 1)) := fun h => by rw [startsN, HQ.out, hbit, h, HX.out]; rfl
        rw [hbit] at HF
        clear hbit hs
        cases i with
        | zero =>
          have HN := Lib.hid (HY.out rfl)
          rw [Nat.add_zero] at x1
          clear HY HNO
          go_wp2_with (go_at_call 89; refine (HF _).mono ?_; rintro e w4 ⟨rfl, rfl⟩)
          go_round
          case rel => exact ⟨1, x + 1, by omega, by go_num, by go_num, by omega, HN⟩
          case measure => simp [intOf]; omega
        | succ i =>
          have hka0 : i < l1.length := by omega
          obtain ⟨bb0, ob0, eq0, hbl0, x0⟩ := (HRI.out _ HB1.out).at_ i hka0
          injection eq0 with eq0
          injection eq0 with eq0 eq1
          subst eq0 eq1
          obtain ⟨s0, hs0', hs20⟩ := HM.out.sets i (by omega)
          rw [← getD_atI hka0, hs0'] at x0
          have HQ0 : Hid (befB (qB l1 k) (i + 1) = s0.testBit k) := by { show (l1.getD i 0).toNat.testBit k = _; rw [hs0']; simp }
          have HF0 := fun W => l11Has_any s0 k W (by omega) (by omega)
          have hki : (0 : Int) ≤ (i : Int) := by omega
          have hki1 : (i : Int) < (n1 : Int) := by omega
          cases hbit0 : s0.testBit k with
          | false =>
            have HN := Lib.hid (HY.out (HQ0.out.trans hbit0))
            rw [hbit0] at HF0
            clear HY HNO hbit0 hs0'
            go_wp2_with (go_at_call 89; first | (with_reducible refine Calls.mono (HF _) ?_; rintro e w4 ⟨rfl, rfl⟩) | (with_reducible refine Calls.mono (HF0 _) ?_; rintro e w4 ⟨rfl, rfl⟩))
            go_round
            case rel => exact ⟨i + 1 + 1, x + 1, by omega, by go_num, by go_num, by omega, HN⟩
            case measure => simp [intOf]; omega
          | true =>
            have HN := Lib.hid (HNO.out (HQ0.out.trans hbit0))
            rw [hbit0] at HF0
            clear HY HNO hbit0 hs0'
            go_wp2_with (go_at_call 89; first | (with_reducible refine Calls.mono (HF _) ?_; rintro e w4 ⟨rfl, rfl⟩) | (with_reducible refine Calls.mono (HF0 _) ?_; rintro e w4 ⟨rfl, rfl⟩))
            go_round
            case rel => exact ⟨i + 1 + 1, x, by omega, by go_num, rfl, by omega, HN⟩
            case measure => simp [intOf]; omega
    · have hkm : i = n1 := by omega
      subst hkm
      go_wp2
      go_ret2
      rw [HR.out, ← HX.out]
      exact ⟨rfl, HB1.out⟩
set_option maxRecDepth 20000 in
set_option maxHeartbeats 2000000 in
theorem specLongestRun_any (w : World) {a0 : Option Addr} {n0 c0 : Nat} (ts0 : List TBlower) (hn0 : Hid (ts0.length = n0)) (h0 : RR 3 cBlower w a0 ts0) (hs0 : n0 ≤ 1048576) (_wf0 : Hid (∀ t ∈ ts0, wfBlower t)) {a1 : Option Addr} {n1 c1 : Nat} (l1 : List Int) (hn1 : Hid (l1.length = n1)) (h1 : RI w a1 l1) (hs1 : n1 ≤ 1048576) (_wf1 : Hid (∀ k ∈ l1, (Lit.int .i64 k).wf = true)) (f2 : Int) (_wf2 : (Lit.int .i64 f2).wf = true) :
    Calls Try.prog 43 #[.slice a0 n0 c0, .slice a1 n1 c1, .int .i64 f2] w fun e w' => e = .returned (.tuple #[.int .i64 (longOf ts0 l1 f2).1, .int .i64 (longOf ts0 l1 f2).2.1, .int .i64 (longOf ts0 l1 f2).2.2]) ∧ Below w.heap.size w w' := by
  have CS := l11One_any a0 ts0 n0 c0 a1 l1 n1 c1 f2 w hn0 h0 hs0 hn1 h1 hs1
  rcases eq_ways (kcode ts0 l1 f2) 0 with ⟨⟨k1, k2⟩, hd⟩ | ⟨⟨k1, k2⟩, hd⟩
  rotate_left
  · have HR : Hid (longOf ts0 l1 f2 = (0, 0, kcode ts0 l1 f2)) := by unfold Hid longOf; rw [if_neg hd]
    clear h0 h1 hd
    go_enter Try.func43, Try.ntmps43
    go_wp2_with (first | (go_at_call 96; refine CS.mono ?_; rintro e w1 ⟨rfl, hb1⟩))
    go_ret3
    rw [HR.out]
    exact ⟨rfl, hb1⟩
  obtain ⟨k, rfl, HM⟩ := ofk_of hn0.out hn1.out hd
  have h24 := HM.out.day
  have hk4 := HM.out.four
  have HR : Hid (longOf ts0 l1 (k : Int) = if (longS (qB l1 k) n1).2.1 = 0 then (0, 0, 3) else ((longS (qB l1 k) n1).1, (longS (qB l1 k) n1).2.1, 0)) := by unfold Hid longOf; rw [if_pos hd, hn1.out, Int.toNat_natCast]
  have HRI : Hid (∀ W, Below w.heap.size w W → RI W a1 l1) := fun W h => h1.below h
  rw [hd] at CS
  clear h0 h1 hd k1 k2
  go_enter Try.func43, Try.ntmps43
  go_wp2_with (first | (go_at_call 96; refine CS.mono ?_; rintro e w1 ⟨rfl, hb1⟩; have HB1 := Lib.hid hb1; clear hb1))
  go_loop [10, 11, 12, 13] (fun av bv cv iv => ∃ (i : Nat) (x y z : Int), i ≤ n1 ∧ iv = .int .i64 i ∧ av = .int .i64 x ∧ bv = .int .i64 y ∧ cv = .int .i64 z ∧ Hid (longS (qB l1 k) i = (x, y, z))) (fun _ _ _ iv => n1 - (intOf iv).toNat)
  case atStart => exact ⟨0, 0, 0, 0, by omega, rfl, rfl, rfl, rfl, rfl⟩
  case round =>
    obtain ⟨i, x, y, z, hk, rfl, rfl, rfl, rfl, HX⟩ := hrel
    have hmo := (runsP (qB l1 k) i).most
    rw [HX.out] at hmo
    dsimp only at hmo
    by_cases hlt : i < n1
    · have hka : i < l1.length := by rw [hn1.out]; exact hlt
      obtain ⟨bb, ob, rfl, hbl, x1⟩ := (HRI.out _ HB1.out).at_ i hka
      obtain ⟨s, hs, hs2⟩ := HM.out.sets i hlt
      rw [← getD_atI hka, hs] at x1
      have HQ : Hid (qB l1 k i = s.testBit k) := by unfold Hid qB; rw [hs]; simp
      have hk0 : (0 : Int) ≤ (i : Int) := by omega
      have hk1 : (i : Int) < (n1 : Int) := by omega
      have HF := fun W => l11Has_any s k W (by omega) (by omega)
      cases hbit : s.testBit k with
      | false =>
        have HN : Hid (longS (qB l1 k) (i + 1) = (x, y, 0)) := by unfold Hid; rw [longS, HQ.out, hbit, HX.out]; rfl
        rw [hbit] at HF
        clear hbit hs
        go_wp2_with (go_at_call 89; refine (HF _).mono ?_; rintro e w4 ⟨rfl, rfl⟩)
        go_round
        case rel => exact ⟨i + 1, x, y, 0, by omega, by go_num, rfl, rfl, rfl, HN⟩
        case measure => simp [intOf]; omega
      | true =>
        have hw1 := wrI (x := z + 1) (by omega)
        have hw2 := wrI (x := (i : Int) - (z + 1)) (by omega)
        have hw3 := wrI (x := (i : Int) - (z + 1) + 1) (by omega)
        by_cases hyz : y < z + 1
        · have HN : Hid (longS (qB l1 k) (i + 1) = ((i : Int) - (z + 1) + 1, z + 1, z + 1)) := by unfold Hid; rw [longS, HQ.out, hbit, HX.out]; simp [hyz]
          rw [hbit] at HF
          clear hbit hs
          go_wp2_with (go_at_call 89; refine (HF _).mono ?_; rintro e w4 ⟨rfl, rfl⟩)
          go_round
          case rel => exact ⟨i + 1, (i : Int) - (z + 1) + 1, z + 1, z + 1, by omega, by go_num, by first | rfl | rw [hw3], rfl, rfl, HN⟩
          case measure => simp [intOf]; omega
        · have HN : Hid (longS (qB l1 k) (i + 1) = (x, y, z + 1)) := by unfold Hid; rw [longS, HQ.out, hbit, HX.out]; simp [hyz]
          rw [hbit] at HF
          clear hbit hs
          go_wp2_with (go_at_call 89; refine (HF _).mono ?_; rintro e w4 ⟨rfl, rfl⟩)
          go_round
          case rel => exact ⟨i + 1, x, y, z + 1, by omega, by go_num, rfl, rfl, rfl, HN⟩
          case measure => simp [intOf]; omega
    · have hkm : i = n1 := by omega
      subst hkm
      rw [HX.out] at HR
      dsimp only at HR
      rcases eq_ways y 0 with ⟨⟨k1, k2⟩, hy⟩ | ⟨⟨k1, k2⟩, hy⟩
      · rw [if_pos hy] at HR
        clear hy
        go_wp2
        go_ret3
        rw [HR.out]
        exact ⟨rfl, HB1.out⟩
      · rw [if_neg hy] at HR
        clear hy
        go_wp2
        go_ret3
        rw [HR.out]
        exact ⟨rfl, HB1.out⟩
end Go.Proofs.Ytiilgeoahpnkpaa
