/-
  Blowers: PowerOf, CostOfDay, MeetsNeeds: the model's walks and the program's.
-/
import Derived.Test.YtiilgeoahpnkpaaBlow4
namespace Go.Proofs.Ytiilgeoahpnkpaa
open Go.RowKit

theorem setB_of {n : Nat} {f : Int} (h : setB n f = true) : ∃ s : Nat, f = (s : Int) ∧ s < 2 ^ n := by
  have := inB_of h
  exact ⟨f.toNat, by omega, by omega⟩
theorem scode_of {ts : List TBlower} {f : Int} : (scode ts f = 0 ∧ blsB ts = true ∧ setB ts.length f = true ∧ powOf ts f = (sumS (pwN ts) f.toNat ts.length, 0)) ∨ (scode ts f ≠ 0 ∧ powOf ts f = (0, scode ts f)) := by
  unfold scode powOf
  by_cases h : blsB ts = true
  · by_cases h2 : setB ts.length f = true
    · left
      simp only [h, h2, if_true]
      exact ⟨trivial, trivial, trivial, trivial⟩
    · right
      simp only [h, h2, if_true, Bool.false_eq_true, if_false]
      exact ⟨by decide, trivial⟩
  · right
    simp only [h, if_false, Bool.false_eq_true]
    exact ⟨by decide, trivial⟩
set_option maxHeartbeats 1000000 in
theorem specPowerOf_any (w : World) {a0 : Option Addr} {n0 c0 : Nat} (ts0 : List TBlower) (hn0 : Hid (ts0.length = n0)) (h0 : RR 3 cBlower w a0 ts0) (hs0 : n0 ≤ 1048576) (_wf0 : Hid (∀ t ∈ ts0, wfBlower t)) (f1 : Int) (_wf1 : (Lit.int .i64 f1).wf = true) :
    Calls Try.prog 31 #[.slice a0 n0 c0, .int .i64 f1] w fun e w' => e = .returned (.tuple #[.int .i64 (powOf ts0 f1).1, .int .i64 (powOf ts0 f1).2]) ∧ Below w.heap.size w w' := by
  have OK := l11Ok_any a0 ts0 n0 c0 w hn0 h0 hs0
  have HA : Hid (∀ W, Below w.heap.size w W → RR 3 cBlower W a0 ts0) := fun W h => h0.below h
  clear h0
  cases h : blsB ts0 with
  | false =>
    rw [h] at OK
    have HR : Hid (powOf ts0 f1 = (0, 1)) := by unfold Hid powOf; rw [h]; rfl
    clear h
    go_enter Try.func31, Try.ntmps31
    go_wp2_with (first | (go_at_call 63; refine OK.mono ?_; rintro e w1 ⟨rfl, hb1⟩))
    go_ret2
    rw [HR.out]
    exact ⟨rfl, hb1⟩
  | true =>
    rw [h] at OK
    have h4 : n0 ≤ 4 := by rw [← hn0.out]; exact (blsB_of h).1
    have HF := fun W => l11Set_any a0 n0 c0 f1 W h4
    cases h2 : setB n0 f1 with
    | false =>
      rw [h2] at HF
      have HR : Hid (powOf ts0 f1 = (0, 2)) := by unfold Hid powOf; rw [if_pos h, hn0.out, h2]; rfl
      clear h h2
      go_enter Try.func31, Try.ntmps31
      go_wp2_with (first | (go_at_call 63; refine OK.mono ?_; rintro e w1 ⟨rfl, hb1⟩) | (go_at_call 85; refine (HF _).mono ?_; rintro e w1 ⟨rfl, rfl⟩))
      go_ret2
      rw [HR.out]
      exact ⟨rfl, hb1⟩
    | true =>
      rw [h2] at HF
      obtain ⟨s, rfl, hs⟩ := setB_of h2
      have h16 := pow_le16 h4
      have HR : Hid (powOf ts0 (s : Int) = (sumS (pwN ts0) s n0, 0)) := by unfold Hid powOf; rw [if_pos h, hn0.out, if_pos h2]; simp
      have PW : Hid (∀ W, Below w.heap.size w W → Calls Try.prog 65 #[.slice a0 n0 c0, .int .i64 s] W fun e w' => e = .returned (.int .i64 (sumS (pwN ts0) s n0)) ∧ W = w') := fun W hW => l11Power_any a0 ts0 n0 c0 s W hn0 (HA.out W hW) h (by omega)
      clear h h2 HA hs h16
      go_enter Try.func31, Try.ntmps31
      go_wp2_with (first | (go_at_call 63; refine OK.mono ?_; rintro e w1 ⟨rfl, hb1⟩) | (go_at_call 85; refine (HF _).mono ?_; rintro e w1 ⟨rfl, rfl⟩) | (go_at_call 65; refine (PW.out _ hb1).mono ?_; rintro e w1 ⟨rfl, rfl⟩))
      go_ret2
      rw [HR.out]
      exact ⟨rfl, hb1⟩
set_option maxHeartbeats 1000000 in
theorem implPowerOf_any (w : World) {a0 : Option Addr} {n0 c0 : Nat} (ts0 : List TBlower) (hn0 : Hid (ts0.length = n0)) (h0 : RR 3 cBlower w a0 ts0) (hs0 : n0 ≤ 1048576) (_wf0 : Hid (∀ t ∈ ts0, wfBlower t)) (f1 : Int) (_wf1 : (Lit.int .i64 f1).wf = true) :
    Calls Try.prog 30 #[.slice a0 n0 c0, .int .i64 f1] w fun e w' => e = .returned (.tuple #[.int .i64 (powOf ts0 f1).1, .int .i64 (powOf ts0 f1).2]) ∧ Below w.heap.size w w' := by
  have CS := checkSet_any a0 ts0 n0 c0 f1 w hn0 h0 hs0
  have HA : Hid (∀ W, Below w.heap.size w W → RR 3 cBlower W a0 ts0) := fun W h => h0.below h
  clear h0
  rcases scode_of (ts := ts0) (f := f1) with ⟨hc, h, h2, hr⟩ | ⟨hc, hr⟩
  · obtain ⟨s, rfl, hs⟩ := setB_of h2
    have HR : Hid (powOf ts0 (s : Int) = (sumS (pwN ts0) s n0, 0)) := by unfold Hid; rw [hr, hn0.out]; simp
    have NB : Hid (∀ W, Below w.heap.size w W → Calls Try.prog 58 #[.slice a0 n0 c0] W fun e w' => (∃ g c, e = .returned (.slice (some ⟨g, 0, none⟩) (2 ^ n0) c) ∧ RR 3 cBlower w' (some ⟨g, 0, none⟩) (bankL ts0 n0)) ∧ Below W.heap.size W w') := fun W hW => newBank_any a0 ts0 n0 c0 W hn0 (HA.out W hW) h
    rw [hc] at CS
    rw [hn0.out] at hs
    have HX : Hid ((bkA ts0 n0 s).1 = sumS (pwN ts0) s n0) := rfl
    have HL : Hid (∀ N, N = 2 ^ n0 → s < N ∧ s < (bankL ts0 n0).length) := fun N e => ⟨by omega, by rw [bankL_len]; exact hs⟩
    clear hc h h2 hr HA hs
    go_enter Try.func30, Try.ntmps30
    go_wp2_with (first | (go_at_call 84; refine CS.mono ?_; rintro e w1 ⟨rfl, hb1⟩; have HB1 := Lib.hid hb1; clear hb1) | (go_at_call 58; refine (NB.out _ HB1.out).mono ?_; rintro e w2 ⟨⟨g, c, rfl, hg⟩, hb2⟩; obtain ⟨N, hN⟩ : ∃ N, N = 2 ^ n0 := ⟨_, rfl⟩; obtain ⟨hs, hsl⟩ := HL.out N hN; obtain ⟨b, off, e1, hbl, hx⟩ := hg.at_ s hsl; injection e1 with e1; injection e1 with e1 e2; subst e1 e2; have x0 := hx 0 _ rfl; rw [bankL_at, Nat.zero_add] at x0; simp only [Nat.add_zero] at x0; rw [← hN]; clear hN hx hg hsl; generalize (bkA ts0 n0 s).1 = x at x0 HX; have HB2 := Lib.hid (HB1.out.trans (hb2.mono HB1.out.size)); clear hb2; have hk0 : (0 : Int) ≤ (s : Int) := by { omega }; have hk1 : (s : Int) < (N : Int) := by { omega }))
    go_ret2
    rw [HR.out, HX.out]
    exact ⟨rfl, HB2.out⟩
  · have HR := Lib.hid hr
    obtain ⟨⟨k1, k2⟩, _⟩ | ⟨⟨k1, k2⟩, _⟩ := eq_ways (scode ts0 f1) 0
    · exact absurd ‹scode ts0 f1 = 0› hc
    · clear hc hr HA
      go_enter Try.func30, Try.ntmps30
      go_wp2_with (first | (go_at_call 84; refine CS.mono ?_; rintro e w1 ⟨rfl, hb1⟩))
      go_ret2
      rw [HR.out]
      exact ⟨rfl, hb1⟩
theorem drewN2 (w : World) (a b : Nat) : (w.drewN a).drewN b = w.drewN (a + b) := by simp [World.drewN, Nat.add_assoc]
theorem costOf_bad {ts : List TBlower} {l : List Int} (h : ¬ dcode ts l = 0) : costOf ts l = (0, dcode ts l) := by unfold costOf; rw [if_neg h]
theorem costOf_good {ts : List TBlower} {l : List Int} (h : dcode ts l = 0) : costOf ts l = (costP ts l l.length, 0) := by unfold costOf; rw [if_pos h]
set_option maxHeartbeats 1000000 in
theorem l11Cost_any (a : Option Addr) (ts : List TBlower) (n ca : Nat) (b : Option Addr) (l : List Int) (m cb : Nat) (w : World) (hn : Hid (ts.length = n)) (ha : RR 3 cBlower w a ts) (hm : Hid (l.length = m)) (hb : RI w b l) (h : dcode ts l = 0) :
    Calls Try.prog 79 #[.slice a n ca, .slice b m cb] w fun e w' => e = .returned (.int .i64 (costP ts l m)) ∧ w = w' := by
  obtain ⟨hv, hd⟩ := dcode_of h
  have h4 : n ≤ 4 := by rw [← hn.out]; exact (blsB_of hv).1
  have h16 := pow_le16 h4
  have HD : Hid (∀ k, k < m → ∃ s : Nat, l.getD k 0 = (s : Int) ∧ s < 2 ^ n) := fun k hk => by
    have hk' : k < l.length := by rw [hm.out]; exact hk
    rw [getD_atI hk', ← hn.out]
    exact (dayB_of hd).2 k hk'
  have HBF : Hid (∀ k, k ≤ m → befN l k < 2 ^ n) := fun k hk => by rw [← hn.out]; exact befN_lt hd (by rw [hm.out]; exact hk)
  have h24 : m ≤ 24 := by rw [← hm.out]; exact (dayB_of hd).1
  have HV := Lib.hid hv
  have ST : Hid (∀ bf s : Nat, bf < 16 → s < 16 → Calls Try.prog 66 #[.slice a n ca, .int .i64 bf, .int .i64 s] w fun e w' => e = .returned (.int .i64 (stepS ts bf s)) ∧ w = w') := fun bf s h1 h2 => l11Step_any a ts n ca bf s w hn ha hv (by omega) (by omega)
  have HRI := Lib.hid hb
  clear hv hd h ha hb
  go_enter Try.func79, Try.ntmps79
  go_wp2
  go_loop [5, 6, 7] (fun v bv i => ∃ (k bf : Nat) (x : Int), k ≤ m ∧ i = .int .i64 k ∧ bv = .int .i64 bf ∧ v = .int .i64 x ∧ Hid (bf = befN l k) ∧ Hid (x = costP ts l k)) (fun _ _ i => m - (intOf i).toNat)
  case atStart => exact ⟨0, 0, 0, by omega, rfl, rfl, rfl, rfl, rfl⟩
  case round =>
    obtain ⟨k, bf, x, hk, rfl, rfl, rfl, HBE, HX⟩ := hrel
    by_cases hlt : k < m
    · have hka : k < l.length := by rw [hm.out]; exact hlt
      obtain ⟨bb, ob, rfl, hbl, x1⟩ := HRI.out.at_ k hka
      obtain ⟨s, hs, hs2⟩ := HD.out k hlt
      rw [← getD_atI hka, hs] at x1
      have hbf := HBF.out k hk
      rw [← HBE.out] at hbf
      have hcb := costP_bd HV.out l k
      have hsb := stepS_bd HV.out bf s
      have HNX : Hid (x + stepS ts bf s = costP ts l (k + 1)) := by unfold Hid; rw [costP, ← HBE.out, hs, HX.out]; simp
      have HB2 : Hid (s = befN l (k + 1)) := by unfold Hid; rw [befN, hs]; simp
      rw [← HX.out] at hcb
      have SS := ST.out bf s (by omega) (by omega)
      generalize stepS ts bf s = y at hsb HNX SS
      have hw := wrI (x := x + y) (by omega)
      have hk0 : (0 : Int) ≤ (k : Int) := by omega
      have hk1 : (k : Int) < (m : Int) := by omega
      clear hs hs2 hbf hcb hsb
      go_wp2_with (go_at_call 66; refine SS.mono ?_; rintro e w4 ⟨rfl, rfl⟩)
      go_round
      case rel => exact ⟨k + 1, s, x + y, by omega, by go_num, rfl, by first | rfl | rw [hw], HB2, HNX⟩
      case measure => simp [intOf]; omega
    · have hkm : k = m := by omega
      subst hkm
      go_wp2
      go_ret
      exact ⟨ret_int HX.out, rfl⟩
set_option maxHeartbeats 1000000 in
theorem specCostOfDay_any (w : World) {a0 : Option Addr} {n0 c0 : Nat} (ts0 : List TBlower) (hn0 : Hid (ts0.length = n0)) (h0 : RR 3 cBlower w a0 ts0) (hs0 : n0 ≤ 1048576) (_wf0 : Hid (∀ t ∈ ts0, wfBlower t)) {a1 : Option Addr} {n1 c1 : Nat} (l1 : List Int) (hn1 : Hid (l1.length = n1)) (h1 : RI w a1 l1) (hs1 : n1 ≤ 1048576) (_wf1 : Hid (∀ k ∈ l1, (Lit.int .i64 k).wf = true)) :
    Calls Try.prog 25 #[.slice a0 n0 c0, .slice a1 n1 c1] w fun e w' => e = .returned (.tuple #[.int .i64 (costOf ts0 l1).1, .int .i64 (costOf ts0 l1).2]) ∧ Below w.heap.size w w' := by
  have CS := l11Sets_any a0 ts0 n0 c0 a1 l1 n1 c1 w hn0 h0 hs0 hn1 h1 hs1
  rcases eq_ways (dcode ts0 l1) 0 with ⟨⟨k1, k2⟩, hd⟩ | ⟨⟨k1, k2⟩, hd⟩
  · have HR : Hid (costOf ts0 l1 = (costP ts0 l1 n1, 0)) := by unfold Hid; rw [costOf_good hd, hn1.out]
    have CO : Hid (∀ W, Below w.heap.size w W → Calls Try.prog 79 #[.slice a0 n0 c0, .slice a1 n1 c1] W fun e w' => e = .returned (.int .i64 (costP ts0 l1 n1)) ∧ W = w') := fun W hW => l11Cost_any a0 ts0 n0 c0 a1 l1 n1 c1 W hn0 (h0.below hW) hn1 (h1.below hW) hd
    rw [hd] at CS
    clear h0 h1 hd k1 k2
    go_enter Try.func25, Try.ntmps25
    go_wp2_with (first | (go_at_call 78; refine CS.mono ?_; rintro e w1 ⟨rfl, hb1⟩) | (go_at_call 79; refine (CO.out _ hb1).mono ?_; rintro e w2 ⟨rfl, rfl⟩))
    go_ret2
    rw [HR.out]
    exact ⟨rfl, hb1⟩
  · have HR := Lib.hid (costOf_bad hd)
    clear h0 h1 hd
    go_enter Try.func25, Try.ntmps25
    go_wp2_with (first | (go_at_call 78; refine CS.mono ?_; rintro e w1 ⟨rfl, hb1⟩))
    go_ret2
    rw [HR.out]
    exact ⟨rfl, hb1⟩
set_option maxHeartbeats 2000000 in
theorem implCostOfDay_any (w : World) {a0 : Option Addr} {n0 c0 : Nat} (ts0 : List TBlower) (hn0 : Hid (ts0.length = n0)) (h0 : RR 3 cBlower w a0 ts0) (hs0 : n0 ≤ 1048576) (_wf0 : Hid (∀ t ∈ ts0, wfBlower t)) {a1 : Option Addr} {n1 c1 : Nat} (l1 : List Int) (hn1 : Hid (l1.length = n1)) (h1 : RI w a1 l1) (hs1 : n1 ≤ 1048576) (_wf1 : Hid (∀ k ∈ l1, (Lit.int .i64 k).wf = true)) :
    Calls Try.prog 24 #[.slice a0 n0 c0, .slice a1 n1 c1] w fun e w' => e = .returned (.tuple #[.int .i64 (costOf ts0 l1).1, .int .i64 (costOf ts0 l1).2]) ∧ Below w.heap.size w w' := by
  have CS := checkSets_any a0 ts0 n0 c0 a1 l1 n1 c1 w hn0 h0 hs0 hn1 h1 hs1
  rcases eq_ways (dcode ts0 l1) 0 with ⟨⟨k1, k2⟩, hd⟩ | ⟨⟨k1, k2⟩, hd⟩
  rotate_left
  · have HR := Lib.hid (costOf_bad hd)
    clear h0 h1 hd
    go_enter Try.func24, Try.ntmps24
    go_wp2_with (first | (go_at_call 76; refine CS.mono ?_; rintro e w1 ⟨rfl, hb1⟩))
    go_ret2
    rw [HR.out]
    exact ⟨rfl, hb1⟩
  have HR : Hid (costOf ts0 l1 = (costP ts0 l1 n1, 0)) := by unfold Hid; rw [costOf_good hd, hn1.out]
  obtain ⟨hv, hdd⟩ := dcode_of hd
  have NB : Hid (∀ W, Below w.heap.size w W → Calls Try.prog 58 #[.slice a0 n0 c0] W fun e w' => (∃ g c, e = .returned (.slice (some ⟨g, 0, none⟩) (2 ^ n0) c) ∧ RR 3 cBlower w' (some ⟨g, 0, none⟩) (bankL ts0 n0)) ∧ Below W.heap.size W w') := fun W hW => newBank_any a0 ts0 n0 c0 W hn0 (h0.below hW) hv
  have h4 : n0 ≤ 4 := by rw [← hn0.out]; exact (blsB_of hv).1
  have HD : Hid (∀ k, k < n1 → ∃ s : Nat, l1.getD k 0 = (s : Int) ∧ s < 2 ^ n0) := fun k hk => by
    have hk' : k < l1.length := by rw [hn1.out]; exact hk
    rw [getD_atI hk', ← hn0.out]
    exact (dayB_of hdd).2 k hk'
  have HBF : Hid (∀ k, k ≤ n1 → befN l1 k < 2 ^ n0) := fun k hk => by rw [← hn0.out]; exact befN_lt hdd (by rw [hn1.out]; exact hk)
  have h24 : n1 ≤ 24 := by rw [← hn1.out]; exact (dayB_of hdd).1
  have HV := Lib.hid hv
  have HRI : Hid (∀ W, Below w.heap.size w W → RI W a1 l1) := fun W h => h1.below h
  rw [hd] at CS
  clear h0 h1 hd k1 k2 hdd hv
  go_enter Try.func24, Try.ntmps24
  go_wp2_with (first | (go_at_call 76; refine CS.mono ?_; rintro e w1 ⟨rfl, hb1⟩; have HB1 := Lib.hid hb1; clear hb1) | (go_at_call 58; refine (NB.out _ HB1.out).mono ?_; rintro e w2 ⟨⟨g, c, rfl, hg⟩, hb2⟩; obtain ⟨N, hN⟩ : ∃ N, N = 2 ^ n0 := ⟨_, rfl⟩; rw [← hN]; have HN := Lib.hid hN; clear hN; have HG := Lib.hid hg; clear hg; have HB2 := Lib.hid (HB1.out.trans (hb2.mono HB1.out.size)); clear hb2))
  go_loopw [8, 9, 22] (fun v bv i wr => ∃ (k bf m : Nat) (x : Int), k ≤ n1 ∧ i = .int .i64 k ∧ bv = .int .i64 bf ∧ v = .int .i64 x ∧ wr = w2.drewN m ∧ Hid (bf = befN l1 k) ∧ Hid (x = costP ts0 l1 k)) (fun _ _ i _ => n1 - (intOf i).toNat)
  case atStart => exact ⟨0, 0, 0, 0, by omega, rfl, rfl, rfl, rfl, rfl, rfl⟩
  case round =>
    obtain ⟨k, bf, m, x, hk, rfl, rfl, rfl, rfl, HBE, HX⟩ := hrel
    by_cases hlt : k < n1
    · have hka : k < l1.length := by rw [hn1.out]; exact hlt
      obtain ⟨bb, ob, rfl, hbl, x1⟩ := (HRI.out _ (Below.drewN' HB2.out m)).at_ k hka
      obtain ⟨s, hs, hs2⟩ := HD.out k hlt
      rw [← getD_atI hka, hs] at x1
      have hbf := HBF.out k hk
      rw [← HBE.out] at hbf
      have hcb := costP_bd HV.out l1 k
      have hsb := stepS_bd HV.out bf s
      have HNX : Hid (x + stepS ts0 bf s = costP ts0 l1 (k + 1)) := by unfold Hid; rw [costP, ← HBE.out, hs, HX.out]; simp
      have HBE2 : Hid (s = befN l1 (k + 1)) := by unfold Hid; rw [befN, hs]; simp
      rw [← HX.out] at hcb
      have CA := fun W (hW : RR 3 cBlower W (some ⟨g, 0, none⟩) (bankL ts0 n0)) => costAfter_any g n0 c bf s ts0 N W HV.out hn0 HN hW (by rw [HN.out]; exact hs2) (by rw [HN.out]; exact hbf)
      have CB := CA _ (HG.out.below (Below.drewN' (Below.refl _ _) m))
      generalize stepS ts0 bf s = y at hsb HNX CB
      have hw := wrI (x := x + y) (by omega)
      have hk0 : (0 : Int) ≤ (k : Int) := by omega
      have hk1 : (k : Int) < (n1 : Int) := by omega
      clear hs hs2 hbf hcb hsb CA
      go_wp2_with (go_at_call 77; refine CB.mono ?_; rintro e w4 ⟨rfl, m2, rfl⟩)
      go_roundw
      case rel => exact ⟨k + 1, s, m + m2, x + y, by omega, by go_num, rfl, by first | rfl | rw [hw], rfl, HBE2, HNX⟩
      case measure => simp [intOf]; omega
    · have hkm : k = n1 := by omega
      subst hkm
      have HB3 := Lib.hid (Below.drewN' HB2.out m)
      go_wp2
      go_ret2
      rw [HR.out, ← HX.out]
      exact ⟨rfl, HB3.out⟩
end Go.Proofs.Ytiilgeoahpnkpaa
